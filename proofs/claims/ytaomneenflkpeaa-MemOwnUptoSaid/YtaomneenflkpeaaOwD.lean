/-
  The walk over glacierlaw5.MemOwn.
-/
import Derived.Test.YtaomneenflkpeaaOwC
import Derived.Test.YtaomneenflkpeaaOwK
import Derived.Test.YtaomneenflkpeaaRPt
import Derived.Test.YtaomneenflkpeaaRngR
import Derived.Test.YtaomneenflkpeaaEnG
namespace Go.Proofs.Ytaomneenflkpeaa
open Go.RowKit Go.Shelf
attribute [local go_sem] Oper.semAt_some

theorem Tb.newO (w : World) (bd : Nat) (hbd : bd ≤ w.heap.size) (v : Value) (draws : List Int) (t : TypeId) (h : Cl w (fun k => k < bd) v draws.length (ints draws)) (hd : ∀ d ∈ draws, -9223372036854775808 ≤ d ∧ d ≤ 9223372036854775807) (ht : t = 37) :
    Tb (w.alloc (.cells #[v, .slice none 0 0, .slice none 0 0, .int .i64 0] t)) (fun k => k = w.heap.size) bd w.heap.size ⟨draws, [], [], 0⟩ := by
  subst ht
  have hb := (Below.refl w.heap.size w).alloc (Nat.le_refl _) (.cells #[v, .slice none 0 0, .slice none 0 0, .int .i64 0] 37)
  exact ⟨v, .slice none 0 0, .slice none 0 0, [], heap_alloc_new w _, h.step (Fr.of_below hb) (fun k _ hk hle => by omega), World.ownsRow_nil _ _ _ _, rfl, (fun k e u h1 _ => by simp at h1), World.ownsRow_nil _ _ _ _, rfl, (fun k hk => by cases hk), (fun k hk => by cases hk), (fun k hk => by omega), ⟨rfl, (by simp), (by simp), (by simp [SrtE]), (by simp), hd⟩⟩
theorem puts_at : ∀ (es l : List Ent) (e : Ent), SrtE l → ((∃ f ∈ l, atE f e = true) ∨ e ∈ es) → ∃ f ∈ putsL l es, atE f e = true
  | [], l, e, _, h => by
    rcases h with h | h
    · exact h
    · cases h
  | y :: r, l, e, hs, h => by
    have e1 : putsL l (y :: r) = putsL (putL l (normE y)) r := rfl
    rw [e1]
    have hy : atE (normE y) y = true := atE_iff.2 ⟨rfl, rfl⟩
    refine puts_at r _ e (srt_putL hs _) ?_
    rcases h with ⟨f, hf, hfe⟩ | h
    · by_cases ha : atE f (normE y) = true
      · exact .inl ⟨normE y, (mem_putL hs _ _).2 (.inl rfl), atE_trans (atE_symm ha) hfe⟩
      · exact .inl ⟨f, (mem_putL hs _ _).2 (.inr ⟨hf, by simpa using ha⟩), hfe⟩
    · rcases List.mem_cons.1 h with rfl | h
      · exact .inl ⟨normE e, (mem_putL hs _ _).2 (.inl rfl), hy⟩
      · exact .inr h
theorem own_found {es : List Ent} {e : Ent} (h : e ∈ es) : ∃ f, newestE (putsL [] es) e.key e.seq = some f := by
  obtain ⟨f, hf, ha⟩ := puts_at es [] e (by simp [SrtE]) (.inr h)
  rcases hn : newestE (putsL [] es) e.key e.seq with _ | g
  · have h1 := newest_none.1 hn f hf
    obtain ⟨k1, k2⟩ := atE_iff.1 ha
    rw [k1, k2] at h1
    simp at h1
  · exact ⟨g, rfl⟩
theorem own_new2 {S S' : Nat → Prop} {w8 : World} {u : Value} {l : List UInt8} (ho : OwnS S w8 u l) (o : Obj) (hS : ∀ k, S k → S' k) : OwnS S' (w8.alloc o) u l :=
  ho.keep (fun j hj => by
    obtain ⟨cur, hc⟩ := ho.1.heap hj
    exact alloc_old (block_lt hc) o) fun k _ hk => hS k hk
theorem own_set2 {S S' : Nat → Prop} {w8 : World} {v : Value} {l : List UInt8} {g : Nat} {a b d f x y z u : Value} (ho : OwnS S w8 v l) (hz : w8.heap[g]? = some (.cells #[a, b, d, f] 30 (0, 0))) (hS : ∀ k, S k → S' k) : OwnS S' (set4 w8 g x y z u) v l :=
  ho.keep (fun j hj => by
    obtain ⟨cur, hc⟩ := ho.1.heap hj
    exact (set4_fr w8 g x y z u (fun k => k = g) rfl).block j (block_lt hc) (kind_ne hc hz (by decide))) fun k _ hk => hS k hk
def zzE : Ent := ⟨[122, 122], 1152921504606846976, false, [108, 97, 116, 101, 114]⟩
theorem zz_fit : FitE zzE := ⟨by decide, by decide, by decide⟩
theorem five_by (w : World) (F : Nat → Prop) (hF : F w.heap.size) : By (w.alloc (.cells #[.int .u8 108, .int .u8 97, .int .u8 116, .int .u8 101, .int .u8 114] 5 (5, 6))) F (.slice (some ⟨w.heap.size, 0, none⟩) 5 5) [108, 97, 116, 101, 114] := by
  refine ⟨_, _, rfl, Nat.le_refl _, by simp, by simp, (fun e => by cases e), fun j x hx => ⟨w.heap.size, 0, rfl, by simp, hF, ?_⟩⟩
  rw [Nat.zero_add]
  exact cell_of (heap_alloc_new w _) (by simpa [bs, bv] using hx)
theorem results_boolC {fn : Func} {p : Tmp} (h : fn.results = #[.cell p 4]) (tmps : Array Value) (w : World) (g : Nat) (b : Bool) (hp : tmps.getD p undef = .pointer (some ⟨g, 0, none⟩)) (hg : w.cell? ⟨g, 0, none⟩ = some (.bool b)) :
    (results fn tmps).run Try.prog w = .ok (.bool b) w := by
  have hp' : tmps[p]?.getD undef = .pointer (some ⟨g, 0, none⟩) := by simpa using hp
  have hl : (loadVar 4 ⟨g, 0, none⟩).run Try.prog w = .ok (.bool b) w := by
    simp [loadVar, Result.andThen, hg]
  simp [results, h, hp', asAddr, hl]

set_option maxRecDepth 100000 in
set_option maxHeartbeats 8000000 in
theorem own_any (w : World) (v0 : Value) (es : List Ent) (h0 : En w (fun k => k < w.heap.size) v0 es) (hf : ∀ x ∈ es, FitE x) (hl : es.length ≤ 1048576) (stop : Int) (hst : -9223372036854775808 ≤ stop ∧ stop ≤ 9223372036854775807) :
    Calls Try.prog 3 #[v0, .int .i64 stop] w fun r W' => r = .returned (.bool true) ∧ Below w.heap.size w W' := by
  obtain ⟨p0, c0, rfl, hlc, hl47, hcm, _⟩ := h0.form
  have H0 := Lib.hid h0
  have HF := Lib.hid hf
  obtain ⟨W0, hW0⟩ : ∃ W0, (w.alloc (.cells #[.int .i64 stop] 3)).alloc (.cells #[.bool false] 4) = W0 := ⟨_, rfl⟩
  have hbW0 : Below w.heap.size w W0 := by rw [← hW0]; exact ((Below.refl _ _).alloc (Nat.le_refl _) _).alloc (by simp) _
  have HKn := Lib.hid (known_k sk_memk W0)
  clear h0 hf
  refine (callsIn_wide (n := 4)).1 ?_
  refine callsIn_of_wp_marks Try.func3 rfl trivial ?_ rfl
  simp only [Try.ntmps3, List.size_toArray, List.length_cons, List.length_nil, Nat.reduceAdd, Nat.reduceSub, Array.replicate_succ, Array.replicate_zero, List.push_toArray, List.append_toArray, List.nil_append, List.cons_append]
  refine wpIn_wide.2 ?_
  go_wp2_with fail
  refine HKn.out.mono ?_
  rintro r w1 ⟨rfl, hb1⟩
  have hrbW : W0.heap[w.heap.size + 1]? = some (.cells #[.bool false] 4 (0, 0)) := by rw [← hW0]; exact heap_alloc2_new w _ _
  have hsbW : W0.heap[w.heap.size]? = some (.cells #[.int .i64 stop] 3 (0, 0)) := by rw [← hW0]; exact (alloc_old (by simp) _).trans (heap_alloc_new w _)
  obtain ⟨fw, hfw⟩ : ∃ fw, fewE es 300 = fw := ⟨_, rfl⟩
  have HFw := Lib.hid hfw
  have hfew := l5_few w1 _ _ es (H0.out.below (hbW0.trans (hb1.mono hbW0.size))) HF.out hl 300
  rw [HFw.out] at hfew
  have HFew := Lib.hid hfew
  have HB1 : Hid (Below w.heap.size w w1 ∧ w1.heap[w.heap.size + 1]? = some (.cells #[.bool false] 4 (0, 0)) ∧ w1.heap[w.heap.size]? = some (.cells #[.int .i64 stop] 3 (0, 0))) := Lib.hid ⟨hbW0.trans (hb1.mono hbW0.size), (hb1.block _ (block_lt hrbW)).trans hrbW, (hb1.block _ (block_lt hsbW)).trans hsbW⟩
  clear hb1 hfew HKn hrbW hsbW hbW0 hW0 hfw
  cases fw
  · go_wp2_with fail
    refine HFew.out.mono ?_
    rintro r w2 ⟨rfl, nq, rfl⟩
    have HB2 : Hid (Below w.heap.size w (w1.drewN nq)) := Lib.hid (below_drewN HB1.out.1 _)
    have hrb : (w1.drewN nq).heap[w.heap.size + 1]? = some (.cells #[.bool false] 4 (0, 0)) := HB1.out.2.1
    have r0 := cell_of (i := 0) hrb rfl
    have z0 := frozen_of (i := 0) hrb
    have HRb := Lib.hid hrb
    clear hrb
    go_wp2_with fail
    exact ⟨_, results_boolC rfl _ _ (w.heap.size + 1) true rfl (cell_of (setCell_same HRb.out _) rfl), rfl, HB2.out.setCell (p := ⟨w.heap.size + 1, 0, none⟩) (by show w.heap.size ≤ w.heap.size + 1; omega) _⟩
  · go_wp2_with fail
    refine HFew.out.mono ?_
    rintro r w2' ⟨rfl, nq, rfl⟩
    obtain ⟨w2, hw2⟩ : ∃ w2, w1.drewN nq = w2 := ⟨_, rfl⟩
    have HB2 : Hid (Below w.heap.size w w2 ∧ w2.heap[w.heap.size + 1]? = some (.cells #[.bool false] 4 (0, 0)) ∧ w2.heap[w.heap.size]? = some (.cells #[.int .i64 stop] 3 (0, 0))) := Lib.hid (by rw [← hw2]; exact ⟨below_drewN HB1.out.1 _, HB1.out.2⟩)
    rw [hw2]
    clear hw2 HFew HB1
    have h300 : es.length ≤ 300 := by
      have := HFw.out
      unfold fewE at this
      simp only [Bool.and_eq_true, decide_eq_true_eq] at this
      omega
    have HNew := Lib.hid (sk_memk.new (w2.alloc (.cells #[.int .i64 2, .int .i64 5, .int .i64 1] 3)) (fun _ => True) (.slice (some ⟨w2.heap.size, 0, none⟩) 3 3) [2, 5, 1] (Cl.new w2 _ 3 (ints [2, 5, 1]) _ _ rfl (by omega) trivial) (by simp) (by simp))
    go_wp2_with fail
    refine HNew.out.mono ?_
    rintro r w3 ⟨mb, rfl, hm, hb3⟩
    have hb3' : Below w2.heap.size w2 w3 := ((Below.refl _ _).alloc (Nat.le_refl _) _).trans (hb3.mono (by simp))
    have HM0 : Hid (Sk w3 (fun j => w2.heap.size ≤ j) mb (tabP [2, 5, 1] [])) := Lib.hid (sk_memk.mono hm fun k _ hk => Nat.le_trans (by simp) hk)
    have HB3 := Lib.hid hb3'
    clear hm hb3 hb3' HNew
    go_wp2_with fail
    go_loopw [6] (fun i wr => ∃ k : Nat, k ≤ es.length ∧ i = .int .i64 (k : Int) ∧ Sk wr (fun j => w2.heap.size ≤ j) mb (tabP [2, 5, 1] (es.take k)) ∧ Below w2.heap.size w2 wr) (fun i _ => es.length - (intOf i).toNat)
    case atStart => exact ⟨0, by omega, rfl, by simpa using HM0.out, HB3.out⟩
    case round =>
      obtain ⟨k, hk, rfl, hmr, hbr⟩ := hrel
      have HMr := Lib.hid hmr
      have HBr := Lib.hid hbr
      have hTl := tabP_len [2, 5, 1] (es.take k)
      rw [List.length_take] at hTl
      clear hmr hbr HM0 HB3
      by_cases hlt : k < es.length
      · have hEr : En wr (fun k => k < w.heap.size) (.slice p0 es.length c0) es := H0.out.below (HB2.out.1.trans (HBr.out.mono HB2.out.1.size))
        obtain ⟨b1, off1, q1, cc1, rfl, hb1, _, hV1, d0, d1, d2, d3⟩ := hEr.at_ (List.getElem?_eq_getElem hlt)
        have HTk : Hid (putT (tabP [2, 5, 1] (es.take k)) (normE es[k]) = tabP [2, 5, 1] (es.take (k + 1))) := Lib.hid (by rw [take_snoc es k _ (List.getElem?_eq_getElem hlt), tabP_snoc])
        have hfx := HF.out _ (List.getElem_mem hlt)
        generalize es[k] = x at *
        have HTw := Lib.hid (r6_twin wr _ x q1 cc1 hV1)
        have HFx := Lib.hid hfx
        clear hEr hV1 hb1 hfx
        go_wp2_with fail
        refine HTw.out.mono ?_
        rintro r w4 ⟨v, rfl, ho4, hb4⟩
        obtain ⟨p9, c9, rfl, hc9, _⟩ := ho4.shp
        obtain ⟨W5, hW5⟩ : ∃ W5, w4.alloc (.cells #[.string ⟨x.key.toArray⟩, .int .u64 (x.seq : Int), .bool x.gone, .slice p9 x.val.length c9] 30) = W5 := ⟨_, rfl⟩
        have hb5 : Below w4.heap.size w4 W5 := by rw [← hW5]; exact (Below.refl _ _).alloc (Nat.le_refl _) _
        have he5 : W5.heap[w4.heap.size]? = some (.cells #[.string ⟨x.key.toArray⟩, .int .u64 (x.seq : Int), .bool x.gone, .slice p9 x.val.length c9] 30 (0, 0)) := by rw [← hW5]; exact heap_alloc_new w4 _
        have hs5 : W5.heap.size = w4.heap.size + 1 := by rw [← hW5]; simp
        have hb45 : Below wr.heap.size wr W5 := hb4.trans (hb5.mono hb4.size)
        have ho5 : Own W5 wr.heap.size (.slice p9 x.val.length c9) x.val := ho4.keep fun j hj => hb5.block j (by
          obtain ⟨cur, hc⟩ := ho4.heap hj
          exact block_lt hc)
        have hlo4 : ∀ j, (Value.slice p9 x.val.length c9).ownBlock = some j → wr.heap.size ≤ j ∧ j < w4.heap.size := fun j hj => by
          obtain ⟨cur, hc⟩ := ho4.heap hj
          exact ⟨row_low ho4 j hj, block_lt hc⟩
        have HM5 : Hid (Sk W5 (fun j => w2.heap.size ≤ j ∧ j < wr.heap.size) mb (tabP [2, 5, 1] (es.take k))) := Lib.hid (sk_memk.after (sk_memk.mono HMr.out fun j hj hs => ⟨hs, hj⟩) hb45)
        have HPut := Lib.hid (sk_memk.put W5 _ _ mb _ HM5.out (by omega) (by omega) x HFx.out p9 c9 (By.of_own ho5 (by have := HFx.out.val; omega) (fun j hj => hj)))
        rw [HTk.out] at HPut
        have y0 := cell_of (i := 0) he5 rfl
        have y1 := cell_of (i := 1) he5 rfl
        have y2 := cell_of (i := 2) he5 rfl
        have y3 := cell_of (i := 3) he5 rfl
        have HE5 := Lib.hid he5
        have HO5 := Lib.hid (And.intro ho5 hlo4)
        have HS5 := Lib.hid hs5
        have HB45 := Lib.hid hb45
        have HSz4 : Hid (wr.heap.size ≤ w4.heap.size) := Lib.hid hb4.size
        clear ho4 hb4 hb5 he5 hs5 hb45 ho5 hlo4 HM5 HMr HTw d0 d1 d2 d3
        go_wp2_with fail
        refine HPut.out.mono ?_
        rintro r w6 ⟨rfl, hm6, hf6⟩
        have hsz4 := HB45.out.size
        have he6 : w6.heap[w4.heap.size]? = some (.cells #[.string ⟨x.key.toArray⟩, .int .u64 (x.seq : Int), .bool x.gone, .slice p9 x.val.length c9] 30 (0, 0)) := hf6.keep HE5.out (fun h => by have := h.2; have := HSz4.out; omega)
        have ho6 : Own w6 wr.heap.size (.slice p9 x.val.length c9) x.val := HO5.out.1.keep fun j hj => hf6.block j (by have := (HO5.out.2 j hj).2; have := HS5.out; omega) (fun h => by have := (HO5.out.2 j hj).1; have := h.2; omega)
        have HSp := Lib.hid (l5_spoil w6 _ _ _ ho6 (by have := HFx.out.val; omega))
        have HM6 := Lib.hid hm6
        have HB6 : Hid (Below w2.heap.size w2 w6) := Lib.hid (HBr.out.trans ((HB45.out.mono HBr.out.size).trans (hf6.below (Nat.le_trans HBr.out.size hsz4) fun j hj h => by have := h.1; omega)))
        have HSz6 := Lib.hid hf6.size
        have e3 := cell_of (i := 3) he6 rfl
        clear hm6 hf6 he6 ho6 y0 y1 y2 y3 HPut HE5
        go_wp2_with fail
        refine HSp.out.mono ?_
        rintro r w7 ⟨rfl, _, hf7⟩
        have HM7 : Hid (Sk w7 (fun j => w2.heap.size ≤ j) mb (tabP [2, 5, 1] (es.take (k + 1)))) := Lib.hid (sk_memk.step HM6.out hf7 (fun j hj hs hr => by
          have h1 := HO5.out.2 j hr
          have := HS5.out
          rcases hs with hs | hs
          · have := hs.2; omega
          · omega) (fun j hj hs => hs.elim (fun h => h.1) (fun h => Nat.le_trans (Nat.le_trans HBr.out.size HB45.out.size) h)))
        have HB7 : Hid (Below w2.heap.size w2 w7) := Lib.hid (HB6.out.trans (hf7.below HB6.out.size fun j hj h => by have := (HO5.out.2 j h).1; have := HBr.out.size; omega))
        clear hf7 HSp e3
        go_wp2_with fail
        go_roundw
        case rel => exact ⟨k + 1, by omega, by go_num, HM7.out, HB7.out⟩
        case measure => simp [intOf]; omega
      · have hk2 : k = es.length := by omega
        subst hk2
        rw [List.take_length] at HMr
        obtain ⟨T, hT⟩ : ∃ T, tabP [2, 5, 1] es = T := ⟨_, rfl⟩
        clear hTl
        have hTl := tabP_len [2, 5, 1] es
        rw [hT] at HMr hTl
        have HTL : Hid (T.L = putsL [] es ∧ T.L.length ≤ 300 ∧ T.came ≤ 300) := Lib.hid ⟨by rw [← hT, tabP_L], by omega, by omega⟩
        obtain ⟨wd, hwd⟩ : ∃ wd : World, wd = wr := ⟨_, rfl⟩
        subst hwd
        obtain ⟨tb, htb⟩ : ∃ tb, wd.heap.size = tb := ⟨_, rfl⟩
        obtain ⟨W8, hW8⟩ : ∃ W8, wd.alloc (.cells #[.slice none 0 0, .slice none 0 0, .slice none 0 0, .int .i64 0] 37) = W8 := ⟨_, rfl⟩
        obtain ⟨W9, hW9⟩ : ∃ W9, W8.alloc (.cells #[.pointer (some ⟨tb, 0, none⟩)] 34) = W9 := ⟨_, rfl⟩
        have hb8 : Below wd.heap.size wd W8 := by rw [← hW8]; exact (Below.refl _ _).alloc (Nat.le_refl _) _
        have hs8 : W8.heap.size = tb + 1 := by rw [← hW8, ← htb]; simp
        have hb9 : Below W8.heap.size W8 W9 := by rw [← hW9]; exact (Below.refl _ _).alloc (Nat.le_refl _) _
        have hs9 : W9.heap.size = tb + 2 := by rw [← hW9]; simp [hs8]
        have hle9 : w2.heap.size ≤ tb := by rw [← htb]; exact HBr.out.size
        have hT8 : Tb W8 (fun k => k = tb) w2.heap.size tb (tabP [] []) := by
          rw [← hW8, ← htb]
          exact Tb.newO wd w2.heap.size HBr.out.size _ [] _ (Cl.nil _ _) (by simp) rfl
        have HT9 : Hid (Tb W9 (fun j => tb ≤ j ∧ j ≠ tb + 1) w2.heap.size tb (tabP [] [])) := Lib.hid ((hT8.after hb9).step (Fr.refl (fun _ => False) W9) (fun _ _ _ hf => hf) (fun _ _ hf => hf) (fun k _ hk => ⟨by omega, by omega⟩) (fun k hk => Nat.le_trans hle9 hk.1))
        have HM9 : Hid (Sk W9 (fun j => w2.heap.size ≤ j ∧ j < tb) mb T) := Lib.hid (sk_memk.after (sk_memk.after (sk_memk.mono HMr.out fun j hj hs => ⟨hs, by omega⟩) hb8) hb9)
        have HR9 : Hid (W9.heap[tb + 1]? = some (.cells #[.pointer (some ⟨tb, 0, none⟩)] 34 (0, 0))) := Lib.hid (by rw [← hW9, ← hs8]; exact heap_alloc_new W8 _)
        have HB9 : Hid (Below w2.heap.size w2 W9 ∧ w2.heap.size ≤ tb) := Lib.hid ⟨HBr.out.trans ((hb8.trans (hb9.mono hb8.size)).mono HBr.out.size), by rw [← htb]; exact HBr.out.size⟩
        clear hT hb8 hb9 hT8 hTl hlt
        go_wp2_with fail
        clear hW8 hW9 htb hs8 hs9
        go_loopw [9] (fun i wq => ∃ k : Nat, k ≤ es.length ∧ i = .int .i64 (k : Int) ∧ Sk wq (fun j => w2.heap.size ≤ j ∧ j < tb) mb T ∧ Tb wq (fun j => tb ≤ j ∧ j ≠ tb + 1) w2.heap.size tb (tabP [] (es.take k)) ∧ wq.heap[tb + 1]? = some (.cells #[.pointer (some ⟨tb, 0, none⟩)] 34 (0, 0)) ∧ Below w2.heap.size w2 wq) (fun i _ => es.length - (intOf i).toNat)
        case atStart => exact ⟨0, by omega, rfl, HM9.out, by simpa using HT9.out, HR9.out, HB9.out.1⟩
        case round =>
          obtain ⟨k, hk, rfl, hmq, htq, hrq, hbq⟩ := hrel
          obtain ⟨wq, hwq⟩ : ∃ wq : World, wq = wr := ⟨_, rfl⟩
          subst hwq
          have HMq := Lib.hid hmq
          have HTq := Lib.hid htq
          have HRq := Lib.hid hrq
          have HBq := Lib.hid hbq
          clear hmq htq hrq hbq HM9 HT9 HR9
          by_cases hlt : k < es.length
          · have hEr : En wq (fun k => k < w.heap.size) (.slice p0 es.length c0) es := H0.out.below (HB2.out.1.trans (HBq.out.mono HB2.out.1.size))
            obtain ⟨b1, off1, q1, cc1, rfl, hb1, hF1, hV1, d0, d1, d2, d3⟩ := hEr.at_ (List.getElem?_eq_getElem hlt)
            have HTk : Hid (putT (tabP [] (es.take k)) (normE es[k]) = tabP [] (es.take (k + 1))) := Lib.hid (by rw [take_snoc es k _ (List.getElem?_eq_getElem hlt), tabP_snoc])
            have hfx := HF.out _ (List.getElem_mem hlt)
            obtain ⟨f, hfd⟩ := own_found (List.getElem_mem hlt)
            rw [← HTL.out.1] at hfd
            have hff : FitE f := (sk_memk.wf HMq.out).fit f (List.mem_of_find?_eq_some hfd)
            have hTk := tabP_len [] (es.take k)
            rw [List.length_take] at hTk
            generalize es[k] = x at *
            have hbd : Below wq.heap.size wq wq.drew := below_drew (Below.refl _ _)
            have HPut := Lib.hid (r5_put wq.drew _ _ w2.heap.size tb _ (HTq.out.after hbd) (by omega) (by omega) x hfx q1 cc1 (hV1.below hbd))
            rw [HTk.out] at HPut
            have c8 := cell_of (i := 0) HRq.out rfl
            have HX : Hid (∀ V : World, (∀ j, j < tb → V.heap[j]? = wq.heap[j]?) → V.cell? ⟨b1, off1 + k * 4, none⟩ = some (.string ⟨x.key.toArray⟩) ∧ V.cell? ⟨b1, off1 + k * 4 + 1, none⟩ = some (.int .u64 (x.seq : Int))) := Lib.hid (fun V hV => by
              have hlt : b1 < tb := Nat.lt_of_lt_of_le hF1 (Nat.le_trans HB2.out.1.size HB9.out.2)
              exact ⟨(World.cell?_of_block (hV b1 hlt)).trans d0, (World.cell?_of_block (hV b1 hlt)).trans d1⟩)
            have HFd := Lib.hid (And.intro hfd (And.intro hff hfx))
            clear hEr hV1 hb1 hfx hfd hff hTk hbd
            go_wp2_with fail
            go_still_tail 5, (by kernel_rfl)
            change wpList _ _ _ _ _ wq.drew
            go_wp2_with fail
            refine HPut.out.mono ?_
            rintro r w6 ⟨rfl, ht6, hf6⟩
            have HT6 : Hid (Tb w6 (fun j => tb ≤ j ∧ j ≠ tb + 1) w2.heap.size tb (tabP [] (es.take (k + 1)))) := Lib.hid (ht6.step (Fr.refl (fun _ => False) w6) (fun _ _ _ hf => hf) (fun _ _ hf => hf) (fun j _ hj => hj.elim id fun h => by
              have h1 := block_lt HRq.out
              have h2 : wq.heap.size ≤ j := h
              exact ⟨by omega, by omega⟩) (fun j hj => Nat.le_trans HB9.out.2 hj.1))
            have hfq : Fr (fun j => tb ≤ j ∧ j ≠ tb + 1) wq w6 := ⟨hf6.os, hf6.tape, hf6.output, hf6.size, hf6.block⟩
            have HM6 : Hid (Sk w6 (fun j => w2.heap.size ≤ j ∧ j < tb) mb T) := Lib.hid (sk_memk.step HMq.out hfq (fun j _ h1 h2 => by have := h1.2; have := h2.1; omega) (fun _ _ h => h))
            have HR6 : Hid (w6.heap[tb + 1]? = some (.cells #[.pointer (some ⟨tb, 0, none⟩)] 34 (0, 0))) := Lib.hid (hfq.keep HRq.out (fun h => h.2 rfl))
            have HB6 : Hid (Below w2.heap.size w2 w6 ∧ ∀ j, j < tb → w6.heap[j]? = wq.heap[j]?) := Lib.hid ⟨HBq.out.trans (hfq.below HBq.out.size fun j hj h => by have := h.1; have := HB9.out.2; omega), fun j hj => hfq.block j (by have := block_lt HRq.out; omega) (fun h => by have := h.1; omega)⟩
            have HGet : Hid (∀ V, Below w6.heap.size w6 V → Calls Try.prog 13 #[.pointer (some ⟨mb, 0, none⟩), .string ⟨x.key.toArray⟩, .int .u64 (x.seq : Int)] V fun r w' => ∃ q c, r = .returned (.tuple #[.agg #[.string ⟨f.key.toArray⟩, .int .u64 (f.seq : Int), .bool f.gone, .slice q f.val.length c], .bool true]) ∧
                OwnS (fun k => V.heap.size ≤ k) w' (.slice q f.val.length c) f.val ∧ Below V.heap.size V w') := Lib.hid (fun V hV => by
              have h9 := sk_memk.get V _ mb T (sk_memk.after HM6.out hV) (by have := HTL.out.2.1; omega) x.key x.seq HFd.out.2.2.key HFd.out.2.2.seq
              rw [HFd.out.1] at h9
              exact h9)
            have HE0 : Hid (∀ V, Below w6.heap.size w6 V → V.cell? ⟨b1, off1 + k * 4, none⟩ = some (.string ⟨x.key.toArray⟩) ∧ V.cell? ⟨b1, off1 + k * 4 + 1, none⟩ = some (.int .u64 (x.seq : Int))) := Lib.hid (fun V hV => HX.out V fun j hj => (hV.block j (by have := block_lt HR6.out; omega)).trans (HB6.out.2 j hj))
            have HB0 : Hid (Below w6.heap.size w6 w6.drew) := Lib.hid (below_drew (Below.refl _ _))
            have HBa : Hid (Below w6.heap.size w6 (w6.drew.alloc (.cells #[.string ⟨#[]⟩, .int .u64 0, .bool false, .slice none 0 0] 30))) := Lib.hid (HB0.out.alloc HB0.out.size _)
            have HZa : Hid ((w6.drew.alloc (.cells #[.string ⟨#[]⟩, .int .u64 0, .bool false, .slice none 0 0] 30)).heap[w6.heap.size]? = some (.cells #[.string ⟨#[]⟩, .int .u64 0, .bool false, .slice none 0 0] 30 (0, 0))) := Lib.hid (heap_alloc_new w6.drew _)
            clear ht6 hf6 hfq HPut HTq HMq d0 d1 d2 d3 c8
            go_upto_region 19 with (fail)
            go_cut [10, 11] from 44 to 75 (fun p q wx => ∃ g qg cg, p = .pointer (some ⟨g, 0, none⟩) ∧ q = .bool true ∧ Hid (BoxE' wx g (f, (qg, cg)) ∧ OwnS (fun k => w6.heap.size ≤ k) wx (.slice qg f.val.length cg) f.val ∧ Below w6.heap.size w6 wx))
            case first =>
              go_region_held3 (fun w' => w'.cell? ⟨b1, off1 + k * 4, none⟩ = some (.string ⟨x.key.toArray⟩) ∧ w'.cell? ⟨b1, off1 + k * 4 + 1, none⟩ = some (.int .u64 (x.seq : Int)))
                ((refine HE0.out _ ?_
                  repeat (first
                  | exact HBn.out
                  | exact HB0.out
                  | exact HBa.out
                  | (refine Below.setCell ?_ (by first | exact HBn.out.size | exact HB0.out.size | (have := HBn.out.size; simp; omega)) _)
                  | (refine Below.alloc ?_ (by first | exact HBn.out.size | exact HB0.out.size | (have := HBn.out.size; simp; omega)) _))))
                (first
                  | (go_at_call 13
                     refine (HGet.out _ HB0.out).mono ?_
                     rintro r w8 ⟨qg, cg, rfl, hog, hb8⟩
                     have HBn := Lib.hid (HB0.out.trans hb8)
                     have HOg := Lib.hid (And.intro hog HB0.out.size)
                     clear hb8 hog)
                  | (go_at_call 13
                     refine (HGet.out _ HBa.out).mono ?_
                     rintro r w8 ⟨qg, cg, rfl, hog, hb8⟩
                     have hz := (hb8.block _ (by simp)).trans HZa.out
                     have z0 := frozen_of (i := 0) hz
                     have z1 := frozen_of (i := 1) hz
                     have z2 := frozen_of (i := 2) hz
                     have z3 := frozen_of (i := 3) hz
                     have y0 := cell_of (i := 0) hz rfl
                     have y1 := cell_of (i := 1) hz rfl
                     have y2 := cell_of (i := 2) hz rfl
                     have y3 := cell_of (i := 3) hz rfl
                     have HBn := Lib.hid (HBa.out.trans (hb8.mono HBa.out.size))
                     have HOg := Lib.hid (And.intro hog HBa.out.size)
                     have HZ := Lib.hid hz
                     clear hb8 hog hz))
              · go_wp2_with fail
                go_meet
                obtain ⟨k1, k2⟩ := box_new (e := f) (q := qg) (c := cg) HBn.out 30 rfl
                exact ⟨_, qg, cg, rfl, rfl, Lib.hid ⟨k1, own_new2 HOg.out.1 _ fun k hk => Nat.le_trans HOg.out.2 hk, k2⟩⟩
              · go_wp2_with fail
                go_meet
                obtain ⟨k1, k2⟩ := box_set (e := f) (q := qg) (c := cg) HBn.out HZ.out (Nat.le_refl _)
                exact ⟨_, qg, cg, rfl, rfl, Lib.hid ⟨k1, own_set2 HOg.out.1 HZ.out fun k hk => Nat.le_trans HOg.out.2 hk, k2⟩⟩
            case rest =>
              obtain ⟨g1, qg, cg, rfl, rfl, hid1⟩ := hcut
              obtain ⟨w1x, hw1x⟩ : ∃ w1x : World, w1x = wc := ⟨_, rfl⟩
              subst hw1x
              have HG := hid1
              clear hid1
              have e3 := cell_of (i := 3) HG.out.1 rfl
              have HSp := Lib.hid (l5_spoil w1x 0 _ _ HG.out.2.1.1 (by have := HFd.out.2.1.val; omega))
              clear HGet HE0 HB0 HBa HZa
              go_wp2_with fail
              refine HSp.out.mono ?_
              rintro r w7 ⟨rfl, _, hf7⟩
              have hR7 : Fr (fun j => w6.heap.size ≤ j) w6 w7 := (Fr.of_below HG.out.2.2).then (hf7.mono fun j _ hj => HG.out.2.1.2 j hj)
              have hb7 : Below w6.heap.size w6 w7 := hR7.below (Nat.le_refl _) fun j hj h => by omega
              have HR7 := Lib.hid hb7
              clear hf7 HSp e3 hR7 hb7
              go_wp2_with fail
              go_roundw
              case rel => exact ⟨k + 1, by omega, by go_num, sk_memk.after HM6.out HR7.out, HT6.out.after HR7.out, (HR7.out.block _ (block_lt HR6.out)).trans HR6.out, HB6.out.1.trans (HR7.out.mono HB6.out.1.size)⟩
              case measure => simp [intOf]; omega
          · have hk2 : k = es.length := by omega
            subst hk2
            rw [List.take_length] at HTq
            obtain ⟨T2, hT2⟩ : ∃ T2, tabP [] es = T2 := ⟨_, rfl⟩
            have hLL : T2.L = T.L := by rw [← hT2, tabP_L, HTL.out.1]
            rw [hT2] at HTq
            have HLL := Lib.hid hLL
            clear hT2 hLL hlt
            obtain ⟨dv, hv, hh, ns, bk, hAt, hhi, hdl⟩ := HMq.out
            have HAt := Lib.hid (And.intro hAt (And.intro hhi hdl))
            have HAll := Lib.hid (tb_allB wq _ mb T _ dv hv hh ns bk hAt)
            clear hAt hhi hdl
            go_wp2_with fail
            refine HAll.out.mono ?_
            rintro r Y1 ⟨ib, sb, fb, cb, rfl, hbY, hlY, hsqY⟩
            have HY := Lib.hid (And.intro hbY (And.intro hlY hsqY))
            clear hbY hlY hsqY HAll
            have kc := fun (w : World) (C : Array Value) (n c : Nat) => Lib.run_convert_bytes_const (P := Try.prog) w 28 5 C n c Try.underlying28 Try.underlying5
            obtain ⟨Z1, hZ1⟩ : ∃ Z1, Y1.alloc (.cells #[.int .u8 108, .int .u8 97, .int .u8 116, .int .u8 101, .int .u8 114] 5 (5, 6)) = Z1 := ⟨_, rfl⟩
            have hbZ : Below Y1.heap.size Y1 Z1 := by rw [← hZ1]; exact (Below.refl _ _).alloc (Nat.le_refl _) _
            have hbqZ : Below wq.heap.size wq Z1 := HY.out.1.trans (hbZ.mono HY.out.1.size)
            have HPut := Lib.hid (sk_tput Z1 _ (fun _ => True) mb T dv hv hh ns bk (HAt.out.1.after hbqZ) HAt.out.2.1 HAt.out.2.2 (by have := HTL.out.2.1; omega) zzE zz_fit _ _ (by rw [← hZ1]; exact five_by Y1 _ trivial))
            have HZ : Hid (Below wq.heap.size wq Z1 ∧ SqB Z1 ib sb fb cb bk (ndAt ns 0) ns.length) := Lib.hid ⟨hbqZ, HY.out.2.2.step (Fr.of_new hbZ (fun _ => False)) ⟨id, id, id, id⟩⟩
            clear hbZ hbqZ
            unfold zzE at HPut
            go_wp2_with fail
            refine HPut.out.mono ?_
            rintro r w11 ⟨rfl, ⟨hv', hh', ns', bk', hA11, _, hpt⟩, hf11⟩
            have h11 : Below wq.heap.size wq Z1 := HZ.out.1
            have hz11 : Z1.heap.size ≤ w11.heap.size := hf11.size
            have hrq : tb + 1 < wq.heap.size := block_lt HRq.out
            have hf12 : Fr (fun j => w2.heap.size ≤ j ∧ j < tb) wq w11 := (Fr.of_new h11 _).then hf11
            have HSk : Hid (∀ V, Below w11.heap.size w11 V → SkAt V (fun j => ((w2.heap.size ≤ j ∧ j < tb) ∨ Z1.heap.size ≤ j) ∧ j < w11.heap.size) mb (putT T (normE ⟨[122, 122], 1152921504606846976, false, [108, 97, 116, 101, 114]⟩)) (sizeE (putT T (normE ⟨[122, 122], 1152921504606846976, false, [108, 97, 116, 101, 114]⟩)).L) dv hv' hh' ns' bk' ∧
                PutTo V ns ns' bk bk' (plcE (normE ⟨[122, 122], 1152921504606846976, false, [108, 97, 116, 101, 114]⟩) T.L) (normE ⟨[122, 122], 1152921504606846976, false, [108, 97, 116, 101, 114]⟩) (foundE (normE ⟨[122, 122], 1152921504606846976, false, [108, 97, 116, 101, 114]⟩) T.L)) := Lib.hid (fun V hV =>
              ⟨(hA11.mono fun k hk hs => (⟨hs, hk⟩ : (_ ∨ _) ∧ _)).after hV, hpt.step (Fr.of_new hV (fun _ => False)) (fun _ _ h => h)⟩)
            have HSq : Hid (∀ V, Below w11.heap.size w11 V → SqB V ib sb fb cb bk (ndAt ns 0) ns.length) := Lib.hid (fun V hV =>
              (HZ.out.2.step hf11 ⟨fun h => by have := h.2; have := HY.out.2.1.1; omega, fun h => by have := h.2; have := HY.out.2.1.2.1; omega, fun h => by have := h.2; have := HY.out.2.1.2.2.1; omega, fun h => by have := h.2; have := HY.out.2.1.2.2.2; omega⟩).step (Fr.of_new hV (fun _ => False)) ⟨id, id, id, id⟩)
            have HTb : Hid (∀ V, Below w11.heap.size w11 V → Tb V (fun j => tb ≤ j ∧ j ≠ tb + 1) w2.heap.size tb T2 ∧ V.heap[tb + 1]? = some (.cells #[.pointer (some ⟨tb, 0, none⟩)] 34 (0, 0))) := Lib.hid (fun V hV => by
              exact ⟨(HTq.out.step hf12 (fun k hk h1 h2 => by have := h1.1; have := h2.2; omega) (fun k hk h => by have := h.1; omega) (fun _ _ h => h) (fun k h => Nat.le_trans HB9.out.2 h.1)).after hV, (hV.block _ (by have := hf12.size; omega)).trans (hf12.keep HRq.out fun h => by have := h.2; omega)⟩)
            have HBx : Hid (∀ V, Below w11.heap.size w11 V → Below w.heap.size w V ∧ V.heap[w.heap.size + 1]? = some (.cells #[.bool false] 4 (0, 0)) ∧ V.heap[w.heap.size]? = some (.cells #[.int .i64 stop] 3 (0, 0))) := Lib.hid (fun V hV => by
              have h2 : Below w2.heap.size w2 V := (HBq.out.trans (hf12.below HBq.out.size fun j hj h => by have := h.1; omega)).trans (hV.mono (Nat.le_trans HBq.out.size hf12.size))
              exact ⟨HB2.out.1.trans (h2.mono HB2.out.1.size), (h2.block _ (block_lt HB2.out.2.1)).trans HB2.out.2.1, (h2.block _ (block_lt HB2.out.2.2)).trans HB2.out.2.2⟩)
            have HAq := Lib.hid HAt.out.1
            have HNum : Hid (tb + 1 < w11.heap.size ∧ w.heap.size + 1 < tb ∧ wq.heap.size ≤ w11.heap.size ∧ (wq.heap.size ≤ ib ∧ wq.heap.size ≤ sb ∧ wq.heap.size ≤ fb ∧ wq.heap.size ≤ cb) ∧ Z1.heap.size ≤ w11.heap.size ∧ wq.heap.size ≤ Z1.heap.size) := Lib.hid ⟨by have := hf12.size; omega, by have := HB2.out; have := block_lt HB2.out.2.1; have := HB9.out.2; omega, hf12.size, HY.out.2.1, hz11, h11.size⟩
            clear hA11 hpt hf11 hf12 h11 hz11 hrq HPut HZ HY HAt HMq HTq HRq HBq HB9 hZ1 kc
            obtain ⟨nA, hnA⟩ : ∃ nA, w11.heap.size = nA := ⟨_, rfl⟩
            obtain ⟨Za, hZa⟩ : ∃ Za, (w11.alloc (.cells #[.int .i64 0] 3)).alloc (.cells #[.int .i64 0] 3) = Za := ⟨_, rfl⟩
            have hbZa : Below w11.heap.size w11 Za := by rw [← hZa]; exact ((Below.refl _ _).alloc (Nat.le_refl _) _).alloc (by simp) _
            have HTa : Hid (Za.heap[nA]? = some (.cells #[.int .i64 0] 3 (0, 0))) := Lib.hid (by rw [← hZa, ← hnA]; exact (alloc_old (by simp) _).trans (heap_alloc_new w11 _))
            have HNb : Hid (Za.heap[nA + 1]? = some (.cells #[.int .i64 (([] : List TEnt).length : Int)] 3 (0, 0))) := Lib.hid (by rw [← hZa, ← hnA]; exact heap_alloc2_new w11 _ _)
            have HBZ := Lib.hid hbZa
            have hszA : Za.heap.size = nA + 2 := by rw [← hZa, ← hnA]; simp
            have HSzA := Lib.hid hszA
            have HNum9 : Hid (w11.heap.size = nA) := Lib.hid hnA
            have HSeq : Hid (SeqF 61 #[.pointer (some ⟨ib, 0, none⟩)] T.L (fun k => Za.heap.size ≤ k) (fun k => k = nA + 1) Za) := Lib.hid (own_seq HAq.out (HSk.out _ hbZa).1 (HSk.out _ hbZa).2 (by rw [← HAq.out.len]; exact plcE_le _ T.L) (HSq.out _ hbZa) (fun k hk => ⟨fun h => by have := h.2; omega, by omega, by have := HNum.out.2.2.1; omega⟩) ⟨fun (h : ib = nA + 1) => by have := block_lt (HSq.out w11 (Below.refl _ _)).inner; have := HNum9.out; omega, fun (h : sb = nA + 1) => by have := block_lt (HSq.out w11 (Below.refl _ _)).since; have := HNum9.out; omega, fun (h : fb = nA + 1) => by have := block_lt (HSq.out w11 (Below.refl _ _)).first; have := HNum9.out; omega, fun (h : cb = nA + 1) => by have := block_lt (HSq.out w11 (Below.refl _ _)).cnt; have := HNum9.out; omega⟩ (fun k hk => hk))
            rw [hnA] at HNum
            have HZa := Lib.hid hZa
            have HnA := Lib.hid hnA
            clear hZa hnA hbZa hszA
            go_wp2_with fail
            refine wp_loop_rounds 3 ?_
            rw [rounds_succ]
            go_wp2_with fail
            rw [HZa.out, HnA.out]
            refine (wpIn_wide (n := 4)).1 ?_
            generalize hA : Act.mk _ _ = A0
            refine range_q (α := TEnt) (encs := encT) (Kp := KpE (fun k => k = nA + 1) Za.heap.size) (Qx := QF fun k => Za.heap.size ≤ k) rfl (by omega) (gf := 61) (lb := #[.pointer (some ⟨ib, 0, none⟩)]) (by rw [← hA]; rfl) trivial (enters_of Try.func61 (by kernel_rfl) rfl) HSeq.out (fun _ => rfl)
              (fun h k => h.trans k) (fun h => .of_calm h)
              (fun pre V => KpE (fun k => k = nA + 1) Za.heap.size Za V ∧ V.heap[nA + 1]? = some (.cells #[.int .i64 (pre.length : Int)] 3 (0, 0))) (fun c pre V => (c = .ret ∧ ¬ (pre.map Prod.fst <+: T.L)) ∨ (c = .exit 6 ∧ KpE (fun k => k = nA + 1) Za.heap.size Za V))
              (fun s A C h hc => ⟨h.1.trans (.of_calm hc), hc.same _ _ h.2 (.inr rfl)⟩) (fun c s A C h hc => h.imp id fun h => ⟨h.1, h.2.trans (.of_calm hc)⟩)
              ⟨KpE.of_below (Below.refl _ _), HNb.out⟩
              (fun x a' V => ∃ Bx, Za.heap.size ≤ Bx ∧ BoxE' V Bx x ∧ QF (fun k => Za.heap.size ≤ k) x V ∧ a' = { tmps := (A0.tmps.setIfInBounds 88 (.agg #[.string ⟨x.1.key.toArray⟩, .int .u64 (x.1.seq : Int), .bool x.1.gone, .slice x.2.1 x.1.val.length x.2.2])).setIfInBounds 15 (.pointer (some ⟨Bx, 0, none⟩)), defers := [] })
              (fun x a' _ A C h hc => by
                obtain ⟨Bx, h1, h2, h3, h4⟩ := h
                exact ⟨Bx, h1, hc.same _ _ h2 (.inr rfl), ⟨hc.ownS h3.1, h3.2⟩, h4⟩) ?assign ?body ?done ?stop
            case assign =>
              intro l2 pre x V K hi hq hK
              have HK := Lib.hid hK
              have Hi := Lib.hid hi
              have Hq := Lib.hid hq
              clear hi hq hK
              subst hA
              unfold encT
              gi_wp2
              have hbb : Below V.heap.size V (V.alloc (.cells #[.string ⟨x.1.key.toArray⟩, .int .u64 (x.1.seq : Int), .bool x.1.gone, .slice x.2.1 x.1.val.length x.2.2] 30)) := (Below.refl _ V).alloc (Nat.le_refl _) _
              have hcm : Calm Za.heap.size V _ := .of_below hbb
              refine HK.out _ _ (keeps_below hbb) (.of_below hbb) ⟨Hi.out.1.trans (.of_below hbb), hcm.same _ _ Hi.out.2 (.inr rfl)⟩ ⟨V.heap.size, Hi.out.1.fr.size, heap_alloc_new V _, ⟨hcm.ownS Hq.out.1, Hq.out.2⟩, rfl⟩
            case body =>
              rintro l2 pre x a' V ⟨hke, hnb⟩ ⟨Bx, hBx, hbe, hq, rfl⟩ hlt
              subst hA
              have hbV : Below w11.heap.size w11 V := HBZ.out.trans (hke.fr.below HBZ.out.size fun k hk h => by have := HnA.out; have := HSzA.out; have h9 : k = nA + 1 ∨ Za.heap.size ≤ k := h; omega)
              obtain ⟨hTbV, hrp⟩ := HTb.out V hbV
              obtain ⟨lv, hlv, hen⟩ := hTbV.en (by rw [HLL.out]; have := HTL.out.2.1; omega)
              rw [HLL.out] at hen
              obtain ⟨pl, cl, rfl, _, _, _, _⟩ := hen.form
              obtain ⟨b2, off2, q2, c2, rfl, hb2, _, hV2, d0, d1, d2, d3⟩ := hen.at_ (List.getElem?_eq_getElem hlt)
              have HLtn := Lib.hid hlt
              have hby : By V (fun k => Za.heap.size ≤ k) (.slice x.2.1 x.1.val.length x.2.2) x.1.val := hq.1.by_ (by have := hq.2.val; omega)
              have HPre : Hid ((pre ++ [x]).map Prod.fst <+: T.L → x.1 = T.L[pre.length]) := Lib.hid (fun h => by
                obtain ⟨r, hr⟩ := h
                have h1 : ((pre ++ [x]).map Prod.fst ++ r)[pre.length]? = some x.1 := by simp
                rw [hr, List.getElem?_eq_getElem hlt] at h1
                exact (Option.some.inj h1).symm)
              generalize T.L[pre.length] = y at *
              have HSame : Hid (Calls Try.prog 15 #[.agg #[.string ⟨x.1.key.toArray⟩, .int .u64 (x.1.seq : Int), .bool x.1.gone, .slice x.2.1 x.1.val.length x.2.2], .agg #[.string ⟨y.key.toArray⟩, .int .u64 (y.seq : Int), .bool y.gone, .slice q2 y.val.length c2]] V.drew fun e w' => e = .returned (.bool (sameE x.1 y)) ∧ Below V.heap.size V w') := Lib.hid
                ((l5_same V.drew x.1 y _ _ x.2.1 q2 x.2.2 c2 hby.drew hV2.drew).mono (by rintro r w' ⟨rfl, hb⟩; exact ⟨rfl, (below_drew (Below.refl _ _)).trans hb⟩))
              have htn : V.heap[nA]? = some (.cells #[.int .i64 0] 3 (0, 0)) := hke.same _ _ _ _ HTa.out (by omega) (by decide)
              obtain ⟨hbw, hrb, hsb⟩ := HBx.out V hbV
              have k14 := cell_of (i := 0) hnb rfl
              have k8 := cell_of (i := 0) hrp rfl
              have e0 := cell_of (i := 0) hbe rfl
              have e1 := cell_of (i := 1) hbe rfl
              have e2 := cell_of (i := 2) hbe rfl
              have e3 := cell_of (i := 3) hbe rfl
              have hlen : pre.length < T.L.length := hlt
              have q1 : decide ((T.L.length : Int) ≤ (pre.length : Int)) = false := decide_eq_false (by omega)
              have q1n : decide (T.L.length ≤ pre.length) = false := decide_eq_false (by omega)
              have HV := Lib.hid (And.intro hke (And.intro hnb (And.intro hrb (And.intro hsb htn))))
              have HBy := Lib.hid (And.intro hbV hbw)
              generalize hpn : pre.length = n at *
              have HPn := Lib.hid hpn
              generalize hTn : T.L.length = m at *
              have HTn := Lib.hid hTn
              obtain ⟨⟨xk, xs, xg, xv⟩, xq, xc⟩ := x
              dsimp only at *
              clear hke hnb hbe hq hTbV hrp hen hV2 hby htn hrb hsb hbV hbw hb2 hlt hpn hTn hBx
              simp only [List.setIfInBounds_toArray, List.set_cons_zero, List.set_cons_succ]
              rcases hsm : sameE ⟨xk, xs, xg, xv⟩ y with _ | _
              · have HSm := Lib.hid hsm
                rw [hsm] at HSame
                clear hsm
                gi_wp2
                refine round_quiet_tail 16 (by kernel_rfl) (by kernel_rfl) (by kernel_rfl) ?_
                simp only [List.take_succ_cons, List.take_zero, List.drop_succ_cons, List.drop_zero]
                repeat (go_big_quiet_step (fail))
                refine wpQuiet_nil ?_
                clear k14 k8 e0 e1 e2 e3 hlv d0 d1 d2 d3
                gi_wp2_with (refine ⟨trivial, ?_⟩
                             gi_at_call 15
                             refine (CallsIn.inRound l2 (callsIn_wide.2 HSame.out)).mono ?_
                             rintro r w2 ⟨rfl, hb2⟩
                             have HB2 := Lib.hid hb2
                             have hrb2 := (hb2.block _ (block_lt HV.out.2.2.1)).trans HV.out.2.2.1
                             have r0 := cell_of (i := 0) hrb2 rfl
                             have z0 := frozen_of (i := 0) hrb2
                             clear hb2 hrb2)
                exact ⟨(keeps_below HB2.out).trans ((KeepsOthers.setCell _ _ _).from _), .inl ⟨rfl, fun h => by
                  have h9 := HPre.out h
                  have h8 := sameE_iff.2 h9
                  rw [HSm.out] at h8
                  cases h8⟩⟩
              · rw [hsm] at HSame
                clear hsm
                gi_wp2
                refine round_quiet_tail 16 (by kernel_rfl) (by kernel_rfl) (by kernel_rfl) ?_
                simp only [List.take_succ_cons, List.take_zero, List.drop_succ_cons, List.drop_zero]
                repeat (go_big_quiet_step (fail))
                refine wpQuiet_nil ?_
                clear k14 k8 e0 e1 e2 e3 hlv d0 d1 d2 d3
                by_cases hst2 : stop < (n : Int) + 1
                · have q2 : decide (stop < (n : Int) + 1) = true := decide_eq_true hst2
                  gi_wp2_with (refine ⟨trivial, ?_⟩
                               gi_at_call 15
                               refine (CallsIn.inRound l2 (callsIn_wide.2 HSame.out)).mono ?_
                               rintro r w2 ⟨rfl, hb2⟩
                               have HB2 := Lib.hid hb2
                               have hnb2 := (hb2.block _ (block_lt HV.out.2.1)).trans HV.out.2.1
                               have htn2 := (hb2.block _ (block_lt HV.out.2.2.2.2)).trans HV.out.2.2.2.2
                               have hsb2 := (hb2.block _ (block_lt HV.out.2.2.2.1)).trans HV.out.2.2.2.1
                               have hNN := HNum.out
                               have c14 := cell_of (i := 0) hnb2 rfl
                               have z14 := frozen_of (i := 0) hnb2
                               obtain ⟨w3, hw3⟩ : ∃ w3, w2.setCell ⟨nA + 1, 0, none⟩ (.int .i64 ((n : Int) + 1)) = w3 := ⟨_, rfl⟩
                               have hn3 : w3.heap[nA + 1]? = some (.cells #[.int .i64 ((n : Int) + 1)] 3 (0, 0)) := by rw [← hw3]; exact setCell_same hnb2 _
                               have ht3 : w3.heap[nA]? = some (.cells #[.int .i64 0] 3 (0, 0)) := by rw [← hw3]; exact (setCell_other (by omega) _).trans htn2
                               have hs3 : w3.heap[w.heap.size]? = some (.cells #[.int .i64 stop] 3 (0, 0)) := by rw [← hw3]; exact (setCell_other (by omega) _).trans hsb2
                               have f14 := cell_of (i := 0) hn3 rfl
                               have f13 := cell_of (i := 0) ht3 rfl
                               have f3 := cell_of (i := 0) hs3 rfl
                               have HK3 : Hid (KpE (fun k => k = nA + 1) Za.heap.size V w3 ∧ KeepsFrom Za.heap.size V w3 ∧ w3.heap[nA + 1]? = some (.cells #[.int .i64 ((n : Int) + 1)] 3 (0, 0))) := Lib.hid (by
                                 refine ⟨?_, ?_, hn3⟩
                                 · rw [← hw3]; exact (KpE.of_below hb2).trans (KpE.setCell (B0 := fun k => k = nA + 1) w2 (g := nA + 1) (i := 0) rfl _)
                                 · rw [← hw3]; exact (keeps_below hb2).trans ((KeepsOthers.setCell _ _ _).from _))
                               clear hb2 hnb2 htn2 hsb2 hn3 ht3 hs3 hNN)
                  exact ⟨HK3.out.2.1, .inr ⟨rfl, HV.out.1.trans HK3.out.1⟩⟩
                · have q2 : decide (stop < (n : Int) + 1) = false := decide_eq_false hst2
                  gi_wp2_with (refine ⟨trivial, ?_⟩
                               gi_at_call 15
                               refine (CallsIn.inRound l2 (callsIn_wide.2 HSame.out)).mono ?_
                               rintro r w2 ⟨rfl, hb2⟩
                               have HB2 := Lib.hid hb2
                               have hnb2 := (hb2.block _ (block_lt HV.out.2.1)).trans HV.out.2.1
                               have htn2 := (hb2.block _ (block_lt HV.out.2.2.2.2)).trans HV.out.2.2.2.2
                               have hsb2 := (hb2.block _ (block_lt HV.out.2.2.2.1)).trans HV.out.2.2.2.1
                               have hNN := HNum.out
                               have c14 := cell_of (i := 0) hnb2 rfl
                               have z14 := frozen_of (i := 0) hnb2
                               obtain ⟨w3, hw3⟩ : ∃ w3, w2.setCell ⟨nA + 1, 0, none⟩ (.int .i64 ((n : Int) + 1)) = w3 := ⟨_, rfl⟩
                               have hn3 : w3.heap[nA + 1]? = some (.cells #[.int .i64 ((n : Int) + 1)] 3 (0, 0)) := by rw [← hw3]; exact setCell_same hnb2 _
                               have ht3 : w3.heap[nA]? = some (.cells #[.int .i64 0] 3 (0, 0)) := by rw [← hw3]; exact (setCell_other (by omega) _).trans htn2
                               have hs3 : w3.heap[w.heap.size]? = some (.cells #[.int .i64 stop] 3 (0, 0)) := by rw [← hw3]; exact (setCell_other (by omega) _).trans hsb2
                               have f14 := cell_of (i := 0) hn3 rfl
                               have f13 := cell_of (i := 0) ht3 rfl
                               have f3 := cell_of (i := 0) hs3 rfl
                               have HK3 : Hid (KpE (fun k => k = nA + 1) Za.heap.size V w3 ∧ KeepsFrom Za.heap.size V w3 ∧ w3.heap[nA + 1]? = some (.cells #[.int .i64 ((n : Int) + 1)] 3 (0, 0))) := Lib.hid (by
                                 refine ⟨?_, ?_, hn3⟩
                                 · rw [← hw3]; exact (KpE.of_below hb2).trans (KpE.setCell (B0 := fun k => k = nA + 1) w2 (g := nA + 1) (i := 0) rfl _)
                                 · rw [← hw3]; exact (keeps_below hb2).trans ((KeepsOthers.setCell _ _ _).from _))
                               clear hb2 hnb2 htn2 hsb2 hn3 ht3 hs3 hNN)
                  exact ⟨HK3.out.2.1, HK3.out.1, HV.out.1.trans HK3.out.1, by rw [HK3.out.2.2, List.length_append, HPn.out]; simp⟩
            case done =>
              rintro D ys V hD hS ⟨hke, hnb⟩ hK
              subst hA
              have hbV : Below w11.heap.size w11 V := HBZ.out.trans (hke.fr.below HBZ.out.size fun k hk h => by have := HnA.out; have := HSzA.out; have h9 : k = nA + 1 ∨ Za.heap.size ≤ k := h; omega)
              have htn : V.heap[nA]? = some (.cells #[.int .i64 0] 3 (0, 0)) := hke.same _ _ _ _ HTa.out (by omega) (by decide)
              have k13 := cell_of (i := 0) htn rfl
              have HBV := Lib.hid (And.intro hbV (And.intro hK hD))
              clear hke hnb hK hS hD hbV htn HSeq HNb
              go_wp2_with fail
              go_quiet (fail)
              rename_i nq
              obtain ⟨V1, hV1⟩ : ∃ V1, V.drewN nq = V1 := ⟨_, rfl⟩
              have HB1 : Hid (Below w11.heap.size w11 V1 ∧ V1.heap[D]? = some (.deferred (some [])) ∧ Za.heap.size ≤ D) := Lib.hid (by rw [← hV1]; exact ⟨below_drewN HBV.out.1 _, HBV.out.2⟩)
              have k13' : V1.cell? ⟨nA, 0, none⟩ = some (.int .i64 0) := by rw [← hV1]; exact k13
              rw [hV1]
              clear hV1 k13 HBV
              go_wp2_with fail
              rw [rounds_succ]
              obtain ⟨nB, hnB⟩ : ∃ nB, V1.heap.size = nB := ⟨_, rfl⟩
              obtain ⟨Zb, hZb⟩ : ∃ Zb, (V1.alloc (.cells #[.int .i64 1] 3)).alloc (.cells #[.int .i64 0] 3) = Zb := ⟨_, rfl⟩
              have hbZ1 : Below V1.heap.size V1 Zb := by rw [← hZb]; exact ((Below.refl _ _).alloc (Nat.le_refl _) _).alloc (by simp) _
              have hbZb : Below w11.heap.size w11 Zb := HB1.out.1.trans (hbZ1.mono HB1.out.1.size)
              have HTb1 : Hid (Zb.heap[nB]? = some (.cells #[.int .i64 1] 3 (0, 0))) := Lib.hid (by rw [← hZb, ← hnB]; exact (alloc_old (by simp) _).trans (heap_alloc_new V1 _))
              have HNb1 : Hid (Zb.heap[nB + 1]? = some (.cells #[.int .i64 (([] : List TEnt).length : Int)] 3 (0, 0))) := Lib.hid (by rw [← hZb, ← hnB]; exact heap_alloc2_new V1 _ _)
              have HBZb := Lib.hid hbZb
              have hszB : Zb.heap.size = nB + 2 := by rw [← hZb, ← hnB]; simp
              have HSzB := Lib.hid hszB
              have hle1 : nA ≤ nB := by have := HB1.out.1.size; have := HNum9.out; omega
              have HnB : Hid (w11.heap.size ≤ nB ∧ nA ≤ nB) := Lib.hid ⟨by have := HNum9.out; omega, hle1⟩
              have HDb : Hid (Zb.heap[D]? = some (.deferred (some [])) ∧ Za.heap.size ≤ D) := Lib.hid ⟨(hbZ1.block D (Array.getElem?_eq_some_iff.1 HB1.out.2.1).1).trans HB1.out.2.1, HB1.out.2.2⟩
              have HSeq1 : Hid (SeqF 61 #[.pointer (some ⟨ib, 0, none⟩)] T.L (fun k => Zb.heap.size ≤ k) (fun k => k = nB + 1) Zb) := Lib.hid (own_seq HAq.out (HSk.out _ hbZb).1 (HSk.out _ hbZb).2 (by rw [← HAq.out.len]; exact plcE_le _ T.L) (HSq.out _ hbZb) (fun k hk => ⟨fun h => by have := h.2; have := HNum9.out; omega, by omega, by have := HNum.out.2.2.1; omega⟩) ⟨fun (h : ib = nB + 1) => by have := block_lt (HSq.out w11 (Below.refl _ _)).inner; have := HNum9.out; omega, fun (h : sb = nB + 1) => by have := block_lt (HSq.out w11 (Below.refl _ _)).since; have := HNum9.out; omega, fun (h : fb = nB + 1) => by have := block_lt (HSq.out w11 (Below.refl _ _)).first; have := HNum9.out; omega, fun (h : cb = nB + 1) => by have := block_lt (HSq.out w11 (Below.refl _ _)).cnt; have := HNum9.out; omega⟩ (fun k hk => hk))
              have HZb := Lib.hid hZb
              have HNB := Lib.hid hnB
              clear hZb hnB hbZb hbZ1 hszB hle1 k13'
              go_wp2_with fail
              rw [HZb.out, HNB.out]
              refine (wpIn_wide (n := 4)).1 ?_
              generalize hA1 : Act.mk _ _ = A1
              refine range_q (α := TEnt) (encs := encT) (Kp := KpE (fun k => k = nB + 1) Zb.heap.size) (Qx := QF fun k => Zb.heap.size ≤ k) rfl (by omega) (gf := 61) (lb := #[.pointer (some ⟨ib, 0, none⟩)]) (by rw [← hA1]; rfl) trivial (enters_of Try.func61 (by kernel_rfl) rfl) HSeq1.out (fun _ => rfl)
                (fun h k => h.trans k) (fun h => .of_calm h)
                (fun pre V => KpE (fun k => k = nB + 1) Zb.heap.size Zb V ∧ V.heap[nB + 1]? = some (.cells #[.int .i64 (pre.length : Int)] 3 (0, 0))) (fun c pre V => c = .ret ∧ ¬ (pre.map Prod.fst <+: T.L))
                (fun s A C h hc => ⟨h.1.trans (.of_calm hc), hc.same _ _ h.2 (.inr rfl)⟩) (fun c s A C h hc => h)
                ⟨KpE.of_below (Below.refl _ _), HNb1.out⟩
                (fun x a' V => ∃ Bx, Zb.heap.size ≤ Bx ∧ BoxE' V Bx x ∧ QF (fun k => Zb.heap.size ≤ k) x V ∧ a' = { tmps := (A1.tmps.setIfInBounds 88 (.agg #[.string ⟨x.1.key.toArray⟩, .int .u64 (x.1.seq : Int), .bool x.1.gone, .slice x.2.1 x.1.val.length x.2.2])).setIfInBounds 15 (.pointer (some ⟨Bx, 0, none⟩)), defers := [] })
                (fun x a' _ A C h hc => by
                  obtain ⟨Bx, h1, h2, h3, h4⟩ := h
                  exact ⟨Bx, h1, hc.same _ _ h2 (.inr rfl), ⟨hc.ownS h3.1, h3.2⟩, h4⟩) ?assign1 ?body1 ?done1 ?stop1
              case assign1 =>
                intro l2 pre x V K hi hq hK
                have HK := Lib.hid hK
                have Hi := Lib.hid hi
                have Hq := Lib.hid hq
                clear hi hq hK
                subst hA1
                unfold encT
                gi_wp2
                have hbb : Below V.heap.size V (V.alloc (.cells #[.string ⟨x.1.key.toArray⟩, .int .u64 (x.1.seq : Int), .bool x.1.gone, .slice x.2.1 x.1.val.length x.2.2] 30)) := (Below.refl _ V).alloc (Nat.le_refl _) _
                have hcm : Calm Zb.heap.size V _ := .of_below hbb
                refine HK.out _ _ (keeps_below hbb) (.of_below hbb) ⟨Hi.out.1.trans (.of_below hbb), hcm.same _ _ Hi.out.2 (.inr rfl)⟩ ⟨V.heap.size, Hi.out.1.fr.size, heap_alloc_new V _, ⟨hcm.ownS Hq.out.1, Hq.out.2⟩, rfl⟩
              case body1 =>
                rintro l2 pre x a' V ⟨hke, hnb⟩ ⟨Bx, hBx, hbe, hq, rfl⟩ hlt
                subst hA1
                have hbV : Below w11.heap.size w11 V := HBZb.out.trans (hke.fr.below HBZb.out.size fun k hk h => by have := HnB.out; have := HSzB.out; have h9 : k = nB + 1 ∨ Zb.heap.size ≤ k := h; omega)
                obtain ⟨hTbV, hrp⟩ := HTb.out V hbV
                obtain ⟨lv, hlv, hen⟩ := hTbV.en (by rw [HLL.out]; have := HTL.out.2.1; omega)
                rw [HLL.out] at hen
                obtain ⟨pl, cl, rfl, _, _, _, _⟩ := hen.form
                obtain ⟨b2, off2, q2, c2, rfl, hb2, _, hV2, d0, d1, d2, d3⟩ := hen.at_ (List.getElem?_eq_getElem hlt)
                have HLtn := Lib.hid hlt
                have hby : By V (fun k => Zb.heap.size ≤ k) (.slice x.2.1 x.1.val.length x.2.2) x.1.val := hq.1.by_ (by have := hq.2.val; omega)
                have HPre : Hid ((pre ++ [x]).map Prod.fst <+: T.L → x.1 = T.L[pre.length]) := Lib.hid (fun h => by
                  obtain ⟨r, hr⟩ := h
                  have h1 : ((pre ++ [x]).map Prod.fst ++ r)[pre.length]? = some x.1 := by simp
                  rw [hr, List.getElem?_eq_getElem hlt] at h1
                  exact (Option.some.inj h1).symm)
                generalize T.L[pre.length] = y at *
                have HSame : Hid (Calls Try.prog 15 #[.agg #[.string ⟨x.1.key.toArray⟩, .int .u64 (x.1.seq : Int), .bool x.1.gone, .slice x.2.1 x.1.val.length x.2.2], .agg #[.string ⟨y.key.toArray⟩, .int .u64 (y.seq : Int), .bool y.gone, .slice q2 y.val.length c2]] V.drew fun e w' => e = .returned (.bool (sameE x.1 y)) ∧ Below V.heap.size V w') := Lib.hid
                  ((l5_same V.drew x.1 y _ _ x.2.1 q2 x.2.2 c2 hby.drew hV2.drew).mono (by rintro r w' ⟨rfl, hb⟩; exact ⟨rfl, (below_drew (Below.refl _ _)).trans hb⟩))
                have htn : V.heap[nB]? = some (.cells #[.int .i64 1] 3 (0, 0)) := hke.same _ _ _ _ HTb1.out (by omega) (by decide)
                obtain ⟨hbw, hrb, hsb⟩ := HBx.out V hbV
                have k14 := cell_of (i := 0) hnb rfl
                have k8 := cell_of (i := 0) hrp rfl
                have e0 := cell_of (i := 0) hbe rfl
                have e1 := cell_of (i := 1) hbe rfl
                have e2 := cell_of (i := 2) hbe rfl
                have e3 := cell_of (i := 3) hbe rfl
                have hlen : pre.length < T.L.length := hlt
                have q1 : decide ((T.L.length : Int) ≤ (pre.length : Int)) = false := decide_eq_false (by omega)
                have q1n : decide (T.L.length ≤ pre.length) = false := decide_eq_false (by omega)
                have HV := Lib.hid (And.intro hke (And.intro hnb (And.intro hrb (And.intro hsb htn))))
                have HBy := Lib.hid (And.intro hbV hbw)
                generalize hpn : pre.length = n at *
                have HPn := Lib.hid hpn
                generalize hTn : T.L.length = m at *
                have HTn := Lib.hid hTn
                obtain ⟨⟨xk, xs, xg, xv⟩, xq, xc⟩ := x
                dsimp only at *
                clear hke hnb hbe hq hTbV hrp hen hV2 hby htn hrb hsb hbV hbw hb2 hlt hpn hTn hBx
                simp only [List.setIfInBounds_toArray, List.set_cons_zero, List.set_cons_succ]
                rcases hsm : sameE ⟨xk, xs, xg, xv⟩ y with _ | _
                · have HSm := Lib.hid hsm
                  rw [hsm] at HSame
                  clear hsm
                  gi_wp2
                  refine round_quiet_tail 16 (by kernel_rfl) (by kernel_rfl) (by kernel_rfl) ?_
                  simp only [List.take_succ_cons, List.take_zero, List.drop_succ_cons, List.drop_zero]
                  repeat (go_big_quiet_step (fail))
                  refine wpQuiet_nil ?_
                  clear k14 k8 e0 e1 e2 e3 hlv d0 d1 d2 d3
                  gi_wp2_with (refine ⟨trivial, ?_⟩
                               gi_at_call 15
                               refine (CallsIn.inRound l2 (callsIn_wide.2 HSame.out)).mono ?_
                               rintro r w2 ⟨rfl, hb2⟩
                               have HB2 := Lib.hid hb2
                               have hrb2 := (hb2.block _ (block_lt HV.out.2.2.1)).trans HV.out.2.2.1
                               have r0 := cell_of (i := 0) hrb2 rfl
                               have z0 := frozen_of (i := 0) hrb2
                               clear hb2 hrb2)
                  exact ⟨(keeps_below HB2.out).trans ((KeepsOthers.setCell _ _ _).from _), ⟨rfl, fun h => by
                    have h9 := HPre.out h
                    have h8 := sameE_iff.2 h9
                    rw [HSm.out] at h8
                    cases h8⟩⟩
                · rw [hsm] at HSame
                  clear hsm
                  gi_wp2
                  refine round_quiet_tail 16 (by kernel_rfl) (by kernel_rfl) (by kernel_rfl) ?_
                  simp only [List.take_succ_cons, List.take_zero, List.drop_succ_cons, List.drop_zero]
                  repeat (go_big_quiet_step (fail))
                  refine wpQuiet_nil ?_
                  clear k14 k8 e0 e1 e2 e3 hlv d0 d1 d2 d3
                  gi_wp2_with (refine ⟨trivial, ?_⟩
                               gi_at_call 15
                               refine (CallsIn.inRound l2 (callsIn_wide.2 HSame.out)).mono ?_
                               rintro r w2 ⟨rfl, hb2⟩
                               have HB2 := Lib.hid hb2
                               have hnb2 := (hb2.block _ (block_lt HV.out.2.1)).trans HV.out.2.1
                               have htn2 := (hb2.block _ (block_lt HV.out.2.2.2.2)).trans HV.out.2.2.2.2
                               have hsb2 := (hb2.block _ (block_lt HV.out.2.2.2.1)).trans HV.out.2.2.2.1
                               have hNN := And.intro HNum.out HnB.out
                               have c14 := cell_of (i := 0) hnb2 rfl
                               have z14 := frozen_of (i := 0) hnb2
                               obtain ⟨w3, hw3⟩ : ∃ w3, w2.setCell ⟨nB + 1, 0, none⟩ (.int .i64 ((n : Int) + 1)) = w3 := ⟨_, rfl⟩
                               have hn3 : w3.heap[nB + 1]? = some (.cells #[.int .i64 ((n : Int) + 1)] 3 (0, 0)) := by rw [← hw3]; exact setCell_same hnb2 _
                               have ht3 : w3.heap[nB]? = some (.cells #[.int .i64 1] 3 (0, 0)) := by rw [← hw3]; exact (setCell_other (by omega) _).trans htn2
                               have hs3 : w3.heap[w.heap.size]? = some (.cells #[.int .i64 stop] 3 (0, 0)) := by rw [← hw3]; exact (setCell_other (by omega) _).trans hsb2
                               have f14 := cell_of (i := 0) hn3 rfl
                               have f13 := cell_of (i := 0) ht3 rfl
                               have f3 := cell_of (i := 0) hs3 rfl
                               have HK3 : Hid (KpE (fun k => k = nB + 1) Zb.heap.size V w3 ∧ KeepsFrom Zb.heap.size V w3 ∧ w3.heap[nB + 1]? = some (.cells #[.int .i64 ((n : Int) + 1)] 3 (0, 0))) := Lib.hid (by
                                 refine ⟨?_, ?_, hn3⟩
                                 · rw [← hw3]; exact (KpE.of_below hb2).trans (KpE.setCell (B0 := fun k => k = nB + 1) w2 (g := nB + 1) (i := 0) rfl _)
                                 · rw [← hw3]; exact (keeps_below hb2).trans ((KeepsOthers.setCell _ _ _).from _))
                               clear hb2 hnb2 htn2 hsb2 hn3 ht3 hs3 hNN)
                  exact ⟨HK3.out.2.1, HK3.out.1, HV.out.1.trans HK3.out.1, by rw [HK3.out.2.2, List.length_append, HPn.out]; simp⟩
              case done1 =>
                rintro D2 ys V hD hS ⟨hke, hnb⟩ hK
                subst hA1
                have hbV : Below w11.heap.size w11 V := HBZb.out.trans (hke.fr.below HBZb.out.size fun k hk h => by have := HnB.out; have := HSzB.out; have h9 : k = nB + 1 ∨ Zb.heap.size ≤ k := h; omega)
                have htn : V.heap[nB]? = some (.cells #[.int .i64 1] 3 (0, 0)) := hke.same _ _ _ _ HTb1.out (by omega) (by decide)
                have hDk : V.heap[D]? = some (.deferred (some [])) := (hke.fr.block D (Array.getElem?_eq_some_iff.1 HDb.out.1).1 fun h => by
                  rcases h with h | h
                  · have h1 := hke.fr.size
                    have h2 := HNb1.out
                    have h3 := HDb.out.1
                    rw [h] at h3
                    rw [h3] at h2
                    cases h2
                  · have := (Array.getElem?_eq_some_iff.1 HDb.out.1).1
                    omega).trans HDb.out.1
                have hlen : ys.length = T.L.length := by rw [← hS, List.length_map]
                rw [hlen] at hnb
                obtain ⟨hTbV, hrp⟩ := HTb.out V hbV
                obtain ⟨lv, hlv, hen⟩ := hTbV.en (by rw [HLL.out]; have := HTL.out.2.1; omega)
                rw [HLL.out] at hen
                obtain ⟨pl, cl, rfl, _, _, _, _⟩ := hen.form
                obtain ⟨hbw, hrb, _⟩ := HBx.out V hbV
                have k13 := cell_of (i := 0) htn rfl
                have k14 := cell_of (i := 0) hnb rfl
                have k8 := cell_of (i := 0) hrp rfl
                have HBV := Lib.hid (And.intro hbV (And.intro hK (And.intro hDk (And.intro hbw (And.intro hrb hD)))))
                generalize T.L.length = m at *
                clear hke hnb hK hS hD hbV htn hDk hlen hTbV hrp hen hbw hrb HSeq1 HNb1
                go_wp2_with fail
                go_quiet (fail)
                rename_i nq
                obtain ⟨V2, hV2⟩ : ∃ V2, V.drewN nq = V2 := ⟨_, rfl⟩
                have HB2x : Hid (V2.heap = V.heap ∧ V2.os = V.os ∧ V2.tape = V.tape ∧ V2.output = V.output) := Lib.hid (by rw [← hV2]; exact ⟨rfl, rfl, rfl, rfl⟩)
                have k13'' : V2.cell? ⟨nB, 0, none⟩ = some (.int .i64 1) := by rw [← hV2]; exact k13
                rw [hV2]
                clear hV2 k13 k14 k8 hlv
                go_wp2_with fail
                rw [rounds_succ]
                obtain ⟨V3, hV3⟩ : ∃ V3, V2.alloc (.cells #[.int .i64 2] 3) = V3 := ⟨_, rfl⟩
                have hb3 : Below V2.heap.size V2 V3 := by rw [← hV3]; exact (Below.refl _ _).alloc (Nat.le_refl _) _
                have hx3 : V3.heap[V2.heap.size]? = some (.cells #[.int .i64 2] 3 (0, 0)) := by rw [← hV3]; exact heap_alloc_new V2 _
                have hrb3 : V3.heap[w.heap.size + 1]? = some (.cells #[.bool false] 4 (0, 0)) := (hb3.block _ (by rw [HB2x.out.1]; exact block_lt HBV.out.2.2.2.2.1)).trans (by rw [HB2x.out.1]; exact HBV.out.2.2.2.2.1)
                have hd2 : V3.heap[D2]? = some (.deferred (some [])) := (hb3.block _ (by rw [HB2x.out.1]; exact (Array.getElem?_eq_some_iff.1 HBV.out.2.1).1)).trans (by rw [HB2x.out.1]; exact HBV.out.2.1)
                have hd1 : V3.heap[D]? = some (.deferred (some [])) := (hb3.block _ (by rw [HB2x.out.1]; exact (Array.getElem?_eq_some_iff.1 HBV.out.2.2.1).1)).trans (by rw [HB2x.out.1]; exact HBV.out.2.2.1)
                have hne12 : D ≠ D2 := fun e => by have h1 := (Array.getElem?_eq_some_iff.1 HDb.out.1).1; have := HBV.out.2.2.2.2.2; omega
                have hbw3 : Below w.heap.size w V3 := (show Below w.heap.size w V2 from ⟨HB2x.out.2.1.trans HBV.out.2.2.2.1.os, HB2x.out.2.2.1.trans HBV.out.2.2.2.1.tape, HB2x.out.2.2.2.trans HBV.out.2.2.2.1.output, by rw [HB2x.out.1]; exact HBV.out.2.2.2.1.size, fun k hk => by rw [HB2x.out.1]; exact HBV.out.2.2.2.1.block k hk⟩).trans (hb3.mono (by rw [HB2x.out.1]; exact HBV.out.2.2.2.1.size))
                have x13 := cell_of (i := 0) hx3 rfl
                have r0 := cell_of (i := 0) hrb3 rfl
                have z0 := frozen_of (i := 0) hrb3
                have HE3 := Lib.hid (And.intro hrb3 (And.intro hd2 (And.intro hd1 (And.intro hne12 hbw3))))
                rw [hV3]
                clear hV3 hb3 hx3 hrb3 hd2 hd1 hne12 hbw3 k13''
                go_wp2_with fail
                have hrbD : ∀ {k : Nat} {o : Obj}, V3.heap[k]? = some o → (∀ c t z, o ≠ .cells c t z) → (V3.setCell ⟨w.heap.size + 1, 0, none⟩ (.bool true)).heap[k]? = some o := fun {k o} h hc => (setCell_other (fun e => by
                  subst e
                  rw [HE3.out.1] at h
                  exact hc _ _ _ (Option.some.inj h).symm) _).trans h
                have t2 := hrbD HE3.out.2.1 (fun _ _ _ h => by cases h)
                have t1 := hrbD HE3.out.2.2.1 (fun _ _ _ h => by cases h)
                have t1' := (World.putObj_heap_other (w := V3.setCell ⟨w.heap.size + 1, 0, none⟩ (.bool true)) (o := .deferred none) HE3.out.2.2.2.1).trans t1
                have hc1 : ((V3.setCell ⟨w.heap.size + 1, 0, none⟩ (.bool true)).putObj D2 (.deferred none)).putObj D (.deferred none) |>.heap[w.heap.size + 1]? = some (.cells #[.bool true] 4 (0, 0)) := by
                  have h0 := setCell_same (off := 0) HE3.out.1 (.bool true)
                  rw [World.putObj_heap_other (fun e => by rw [← e, h0] at t1; cases t1), World.putObj_heap_other (fun e => by rw [← e, h0] at t2; cases t2)]
                  exact h0
                have hbz : Below w.heap.size w (((V3.setCell ⟨w.heap.size + 1, 0, none⟩ (.bool true)).putObj D2 (.deferred none)).putObj D (.deferred none)) := by
                  have h1 : Below w.heap.size w (V3.setCell ⟨w.heap.size + 1, 0, none⟩ (.bool true)) := HE3.out.2.2.2.2.setCell (p := ⟨w.heap.size + 1, 0, none⟩) (by show w.heap.size ≤ w.heap.size + 1; omega) _
                  have hDn : w.heap.size ≤ D := by have := HDb.out.2; have := HSzA.out; have := HNum.out; omega
                  have hD2n : w.heap.size ≤ D2 := by have := HBV.out.2.2.2.2.2; have := HSzB.out; have := HnB.out; have := HNum.out; omega
                  exact ⟨h1.os, h1.tape, h1.output, by simpa [World.putObj] using h1.size, fun k hk => by
                    rw [World.putObj_heap_other (by omega), World.putObj_heap_other (by omega)]
                    exact h1.block k hk⟩
                refine ⟨by simp, .inl ⟨_, _, rfl, run_takeDeferred t2, ⟨by simp, .inl ⟨_, _, rfl, run_takeDeferred t1', ?_⟩⟩⟩⟩
                exact ⟨_, results_boolC rfl _ _ (w.heap.size + 1) true rfl (cell_of hc1 rfl), rfl, hbz⟩
              case stop1 =>
                rintro D2 c pre V hD hS ⟨rfl, hn⟩ hK
                exact absurd hS hn
            case stop =>
              rintro D c pre V hD hS (⟨rfl, hn⟩ | ⟨rfl, hke⟩) hK
              · exact absurd hS hn
              · skip
                subst hA
                have hbV : Below w11.heap.size w11 V := HBZ.out.trans (hke.fr.below HBZ.out.size fun k hk h => by have := HnA.out; have := HSzA.out; have h9 : k = nA + 1 ∨ Za.heap.size ≤ k := h; omega)
                have htn : V.heap[nA]? = some (.cells #[.int .i64 0] 3 (0, 0)) := hke.same _ _ _ _ HTa.out (by omega) (by decide)
                have k13 := cell_of (i := 0) htn rfl
                have HBV := Lib.hid (And.intro hbV (And.intro hK hD))
                clear hke hK hS hD hbV htn HSeq HNb
                refine wpIn_wide.2 ?_
                go_wp2_with fail
                go_quiet (fail)
                rename_i nq
                obtain ⟨V1, hV1⟩ : ∃ V1, V.drewN nq = V1 := ⟨_, rfl⟩
                have HB1 : Hid (Below w11.heap.size w11 V1 ∧ V1.heap[D]? = some (.deferred (some [])) ∧ Za.heap.size ≤ D) := Lib.hid (by rw [← hV1]; exact ⟨below_drewN HBV.out.1 _, HBV.out.2⟩)
                have k13' : V1.cell? ⟨nA, 0, none⟩ = some (.int .i64 0) := by rw [← hV1]; exact k13
                rw [hV1]
                clear hV1 k13 HBV
                go_wp2_with fail
                rw [rounds_succ]
                obtain ⟨nB, hnB⟩ : ∃ nB, V1.heap.size = nB := ⟨_, rfl⟩
                obtain ⟨Zb, hZb⟩ : ∃ Zb, (V1.alloc (.cells #[.int .i64 1] 3)).alloc (.cells #[.int .i64 0] 3) = Zb := ⟨_, rfl⟩
                have hbZ1 : Below V1.heap.size V1 Zb := by rw [← hZb]; exact ((Below.refl _ _).alloc (Nat.le_refl _) _).alloc (by simp) _
                have hbZb : Below w11.heap.size w11 Zb := HB1.out.1.trans (hbZ1.mono HB1.out.1.size)
                have HTb1 : Hid (Zb.heap[nB]? = some (.cells #[.int .i64 1] 3 (0, 0))) := Lib.hid (by rw [← hZb, ← hnB]; exact (alloc_old (by simp) _).trans (heap_alloc_new V1 _))
                have HNb1 : Hid (Zb.heap[nB + 1]? = some (.cells #[.int .i64 (([] : List TEnt).length : Int)] 3 (0, 0))) := Lib.hid (by rw [← hZb, ← hnB]; exact heap_alloc2_new V1 _ _)
                have HBZb := Lib.hid hbZb
                have hszB : Zb.heap.size = nB + 2 := by rw [← hZb, ← hnB]; simp
                have HSzB := Lib.hid hszB
                have hle1 : nA ≤ nB := by have := HB1.out.1.size; have := HNum9.out; omega
                have HnB : Hid (w11.heap.size ≤ nB ∧ nA ≤ nB) := Lib.hid ⟨by have := HNum9.out; omega, hle1⟩
                have HDb : Hid (Zb.heap[D]? = some (.deferred (some [])) ∧ Za.heap.size ≤ D) := Lib.hid ⟨(hbZ1.block D (Array.getElem?_eq_some_iff.1 HB1.out.2.1).1).trans HB1.out.2.1, HB1.out.2.2⟩
                have HSeq1 : Hid (SeqF 61 #[.pointer (some ⟨ib, 0, none⟩)] T.L (fun k => Zb.heap.size ≤ k) (fun k => k = nB + 1) Zb) := Lib.hid (own_seq HAq.out (HSk.out _ hbZb).1 (HSk.out _ hbZb).2 (by rw [← HAq.out.len]; exact plcE_le _ T.L) (HSq.out _ hbZb) (fun k hk => ⟨fun h => by have := h.2; have := HNum9.out; omega, by omega, by have := HNum.out.2.2.1; omega⟩) ⟨fun (h : ib = nB + 1) => by have := block_lt (HSq.out w11 (Below.refl _ _)).inner; have := HNum9.out; omega, fun (h : sb = nB + 1) => by have := block_lt (HSq.out w11 (Below.refl _ _)).since; have := HNum9.out; omega, fun (h : fb = nB + 1) => by have := block_lt (HSq.out w11 (Below.refl _ _)).first; have := HNum9.out; omega, fun (h : cb = nB + 1) => by have := block_lt (HSq.out w11 (Below.refl _ _)).cnt; have := HNum9.out; omega⟩ (fun k hk => hk))
                have HZb := Lib.hid hZb
                have HNB := Lib.hid hnB
                clear hZb hnB hbZb hbZ1 hszB hle1 k13'
                go_wp2_with fail
                rw [HZb.out, HNB.out]
                refine (wpIn_wide (n := 4)).1 ?_
                generalize hA1 : Act.mk _ _ = A1
                refine range_q (α := TEnt) (encs := encT) (Kp := KpE (fun k => k = nB + 1) Zb.heap.size) (Qx := QF fun k => Zb.heap.size ≤ k) rfl (by omega) (gf := 61) (lb := #[.pointer (some ⟨ib, 0, none⟩)]) (by rw [← hA1]; rfl) trivial (enters_of Try.func61 (by kernel_rfl) rfl) HSeq1.out (fun _ => rfl)
                  (fun h k => h.trans k) (fun h => .of_calm h)
                  (fun pre V => KpE (fun k => k = nB + 1) Zb.heap.size Zb V ∧ V.heap[nB + 1]? = some (.cells #[.int .i64 (pre.length : Int)] 3 (0, 0))) (fun c pre V => c = .ret ∧ ¬ (pre.map Prod.fst <+: T.L))
                  (fun s A C h hc => ⟨h.1.trans (.of_calm hc), hc.same _ _ h.2 (.inr rfl)⟩) (fun c s A C h hc => h)
                  ⟨KpE.of_below (Below.refl _ _), HNb1.out⟩
                  (fun x a' V => ∃ Bx, Zb.heap.size ≤ Bx ∧ BoxE' V Bx x ∧ QF (fun k => Zb.heap.size ≤ k) x V ∧ a' = { tmps := (A1.tmps.setIfInBounds 88 (.agg #[.string ⟨x.1.key.toArray⟩, .int .u64 (x.1.seq : Int), .bool x.1.gone, .slice x.2.1 x.1.val.length x.2.2])).setIfInBounds 15 (.pointer (some ⟨Bx, 0, none⟩)), defers := [] })
                  (fun x a' _ A C h hc => by
                    obtain ⟨Bx, h1, h2, h3, h4⟩ := h
                    exact ⟨Bx, h1, hc.same _ _ h2 (.inr rfl), ⟨hc.ownS h3.1, h3.2⟩, h4⟩) ?assign1 ?body1 ?done1 ?stop1
                case assign1 =>
                  intro l2 pre x V K hi hq hK
                  have HK := Lib.hid hK
                  have Hi := Lib.hid hi
                  have Hq := Lib.hid hq
                  clear hi hq hK
                  subst hA1
                  unfold encT
                  gi_wp2
                  have hbb : Below V.heap.size V (V.alloc (.cells #[.string ⟨x.1.key.toArray⟩, .int .u64 (x.1.seq : Int), .bool x.1.gone, .slice x.2.1 x.1.val.length x.2.2] 30)) := (Below.refl _ V).alloc (Nat.le_refl _) _
                  have hcm : Calm Zb.heap.size V _ := .of_below hbb
                  refine HK.out _ _ (keeps_below hbb) (.of_below hbb) ⟨Hi.out.1.trans (.of_below hbb), hcm.same _ _ Hi.out.2 (.inr rfl)⟩ ⟨V.heap.size, Hi.out.1.fr.size, heap_alloc_new V _, ⟨hcm.ownS Hq.out.1, Hq.out.2⟩, rfl⟩
                case body1 =>
                  rintro l2 pre x a' V ⟨hke, hnb⟩ ⟨Bx, hBx, hbe, hq, rfl⟩ hlt
                  subst hA1
                  have hbV : Below w11.heap.size w11 V := HBZb.out.trans (hke.fr.below HBZb.out.size fun k hk h => by have := HnB.out; have := HSzB.out; have h9 : k = nB + 1 ∨ Zb.heap.size ≤ k := h; omega)
                  obtain ⟨hTbV, hrp⟩ := HTb.out V hbV
                  obtain ⟨lv, hlv, hen⟩ := hTbV.en (by rw [HLL.out]; have := HTL.out.2.1; omega)
                  rw [HLL.out] at hen
                  obtain ⟨pl, cl, rfl, _, _, _, _⟩ := hen.form
                  obtain ⟨b2, off2, q2, c2, rfl, hb2, _, hV2, d0, d1, d2, d3⟩ := hen.at_ (List.getElem?_eq_getElem hlt)
                  have HLtn := Lib.hid hlt
                  have hby : By V (fun k => Zb.heap.size ≤ k) (.slice x.2.1 x.1.val.length x.2.2) x.1.val := hq.1.by_ (by have := hq.2.val; omega)
                  have HPre : Hid ((pre ++ [x]).map Prod.fst <+: T.L → x.1 = T.L[pre.length]) := Lib.hid (fun h => by
                    obtain ⟨r, hr⟩ := h
                    have h1 : ((pre ++ [x]).map Prod.fst ++ r)[pre.length]? = some x.1 := by simp
                    rw [hr, List.getElem?_eq_getElem hlt] at h1
                    exact (Option.some.inj h1).symm)
                  generalize T.L[pre.length] = y at *
                  have HSame : Hid (Calls Try.prog 15 #[.agg #[.string ⟨x.1.key.toArray⟩, .int .u64 (x.1.seq : Int), .bool x.1.gone, .slice x.2.1 x.1.val.length x.2.2], .agg #[.string ⟨y.key.toArray⟩, .int .u64 (y.seq : Int), .bool y.gone, .slice q2 y.val.length c2]] V.drew fun e w' => e = .returned (.bool (sameE x.1 y)) ∧ Below V.heap.size V w') := Lib.hid
                    ((l5_same V.drew x.1 y _ _ x.2.1 q2 x.2.2 c2 hby.drew hV2.drew).mono (by rintro r w' ⟨rfl, hb⟩; exact ⟨rfl, (below_drew (Below.refl _ _)).trans hb⟩))
                  have htn : V.heap[nB]? = some (.cells #[.int .i64 1] 3 (0, 0)) := hke.same _ _ _ _ HTb1.out (by omega) (by decide)
                  obtain ⟨hbw, hrb, hsb⟩ := HBx.out V hbV
                  have k14 := cell_of (i := 0) hnb rfl
                  have k8 := cell_of (i := 0) hrp rfl
                  have e0 := cell_of (i := 0) hbe rfl
                  have e1 := cell_of (i := 1) hbe rfl
                  have e2 := cell_of (i := 2) hbe rfl
                  have e3 := cell_of (i := 3) hbe rfl
                  have hlen : pre.length < T.L.length := hlt
                  have q1 : decide ((T.L.length : Int) ≤ (pre.length : Int)) = false := decide_eq_false (by omega)
                  have q1n : decide (T.L.length ≤ pre.length) = false := decide_eq_false (by omega)
                  have HV := Lib.hid (And.intro hke (And.intro hnb (And.intro hrb (And.intro hsb htn))))
                  have HBy := Lib.hid (And.intro hbV hbw)
                  generalize hpn : pre.length = n at *
                  have HPn := Lib.hid hpn
                  generalize hTn : T.L.length = m at *
                  have HTn := Lib.hid hTn
                  obtain ⟨⟨xk, xs, xg, xv⟩, xq, xc⟩ := x
                  dsimp only at *
                  clear hke hnb hbe hq hTbV hrp hen hV2 hby htn hrb hsb hbV hbw hb2 hlt hpn hTn hBx
                  simp only [List.setIfInBounds_toArray, List.set_cons_zero, List.set_cons_succ]
                  rcases hsm : sameE ⟨xk, xs, xg, xv⟩ y with _ | _
                  · have HSm := Lib.hid hsm
                    rw [hsm] at HSame
                    clear hsm
                    gi_wp2
                    refine round_quiet_tail 16 (by kernel_rfl) (by kernel_rfl) (by kernel_rfl) ?_
                    simp only [List.take_succ_cons, List.take_zero, List.drop_succ_cons, List.drop_zero]
                    repeat (go_big_quiet_step (fail))
                    refine wpQuiet_nil ?_
                    clear k14 k8 e0 e1 e2 e3 hlv d0 d1 d2 d3
                    gi_wp2_with (refine ⟨trivial, ?_⟩
                                 gi_at_call 15
                                 refine (CallsIn.inRound l2 (callsIn_wide.2 HSame.out)).mono ?_
                                 rintro r w2 ⟨rfl, hb2⟩
                                 have HB2 := Lib.hid hb2
                                 have hrb2 := (hb2.block _ (block_lt HV.out.2.2.1)).trans HV.out.2.2.1
                                 have r0 := cell_of (i := 0) hrb2 rfl
                                 have z0 := frozen_of (i := 0) hrb2
                                 clear hb2 hrb2)
                    exact ⟨(keeps_below HB2.out).trans ((KeepsOthers.setCell _ _ _).from _), ⟨rfl, fun h => by
                      have h9 := HPre.out h
                      have h8 := sameE_iff.2 h9
                      rw [HSm.out] at h8
                      cases h8⟩⟩
                  · rw [hsm] at HSame
                    clear hsm
                    gi_wp2
                    refine round_quiet_tail 16 (by kernel_rfl) (by kernel_rfl) (by kernel_rfl) ?_
                    simp only [List.take_succ_cons, List.take_zero, List.drop_succ_cons, List.drop_zero]
                    repeat (go_big_quiet_step (fail))
                    refine wpQuiet_nil ?_
                    clear k14 k8 e0 e1 e2 e3 hlv d0 d1 d2 d3
                    gi_wp2_with (refine ⟨trivial, ?_⟩
                                 gi_at_call 15
                                 refine (CallsIn.inRound l2 (callsIn_wide.2 HSame.out)).mono ?_
                                 rintro r w2 ⟨rfl, hb2⟩
                                 have HB2 := Lib.hid hb2
                                 have hnb2 := (hb2.block _ (block_lt HV.out.2.1)).trans HV.out.2.1
                                 have htn2 := (hb2.block _ (block_lt HV.out.2.2.2.2)).trans HV.out.2.2.2.2
                                 have hsb2 := (hb2.block _ (block_lt HV.out.2.2.2.1)).trans HV.out.2.2.2.1
                                 have hNN := And.intro HNum.out HnB.out
                                 have c14 := cell_of (i := 0) hnb2 rfl
                                 have z14 := frozen_of (i := 0) hnb2
                                 obtain ⟨w3, hw3⟩ : ∃ w3, w2.setCell ⟨nB + 1, 0, none⟩ (.int .i64 ((n : Int) + 1)) = w3 := ⟨_, rfl⟩
                                 have hn3 : w3.heap[nB + 1]? = some (.cells #[.int .i64 ((n : Int) + 1)] 3 (0, 0)) := by rw [← hw3]; exact setCell_same hnb2 _
                                 have ht3 : w3.heap[nB]? = some (.cells #[.int .i64 1] 3 (0, 0)) := by rw [← hw3]; exact (setCell_other (by omega) _).trans htn2
                                 have hs3 : w3.heap[w.heap.size]? = some (.cells #[.int .i64 stop] 3 (0, 0)) := by rw [← hw3]; exact (setCell_other (by omega) _).trans hsb2
                                 have f14 := cell_of (i := 0) hn3 rfl
                                 have f13 := cell_of (i := 0) ht3 rfl
                                 have f3 := cell_of (i := 0) hs3 rfl
                                 have HK3 : Hid (KpE (fun k => k = nB + 1) Zb.heap.size V w3 ∧ KeepsFrom Zb.heap.size V w3 ∧ w3.heap[nB + 1]? = some (.cells #[.int .i64 ((n : Int) + 1)] 3 (0, 0))) := Lib.hid (by
                                   refine ⟨?_, ?_, hn3⟩
                                   · rw [← hw3]; exact (KpE.of_below hb2).trans (KpE.setCell (B0 := fun k => k = nB + 1) w2 (g := nB + 1) (i := 0) rfl _)
                                   · rw [← hw3]; exact (keeps_below hb2).trans ((KeepsOthers.setCell _ _ _).from _))
                                 clear hb2 hnb2 htn2 hsb2 hn3 ht3 hs3 hNN)
                    exact ⟨HK3.out.2.1, HK3.out.1, HV.out.1.trans HK3.out.1, by rw [HK3.out.2.2, List.length_append, HPn.out]; simp⟩
                case done1 =>
                  rintro D2 ys V hD hS ⟨hke, hnb⟩ hK
                  subst hA1
                  have hbV : Below w11.heap.size w11 V := HBZb.out.trans (hke.fr.below HBZb.out.size fun k hk h => by have := HnB.out; have := HSzB.out; have h9 : k = nB + 1 ∨ Zb.heap.size ≤ k := h; omega)
                  have htn : V.heap[nB]? = some (.cells #[.int .i64 1] 3 (0, 0)) := hke.same _ _ _ _ HTb1.out (by omega) (by decide)
                  have hDk : V.heap[D]? = some (.deferred (some [])) := (hke.fr.block D (Array.getElem?_eq_some_iff.1 HDb.out.1).1 fun h => by
                    rcases h with h | h
                    · have h1 := hke.fr.size
                      have h2 := HNb1.out
                      have h3 := HDb.out.1
                      rw [h] at h3
                      rw [h3] at h2
                      cases h2
                    · have := (Array.getElem?_eq_some_iff.1 HDb.out.1).1
                      omega).trans HDb.out.1
                  have hlen : ys.length = T.L.length := by rw [← hS, List.length_map]
                  rw [hlen] at hnb
                  obtain ⟨hTbV, hrp⟩ := HTb.out V hbV
                  obtain ⟨lv, hlv, hen⟩ := hTbV.en (by rw [HLL.out]; have := HTL.out.2.1; omega)
                  rw [HLL.out] at hen
                  obtain ⟨pl, cl, rfl, _, _, _, _⟩ := hen.form
                  obtain ⟨hbw, hrb, _⟩ := HBx.out V hbV
                  have k13 := cell_of (i := 0) htn rfl
                  have k14 := cell_of (i := 0) hnb rfl
                  have k8 := cell_of (i := 0) hrp rfl
                  have HBV := Lib.hid (And.intro hbV (And.intro hK (And.intro hDk (And.intro hbw (And.intro hrb hD)))))
                  generalize T.L.length = m at *
                  clear hke hnb hK hS hD hbV htn hDk hlen hTbV hrp hen hbw hrb HSeq1 HNb1
                  go_wp2_with fail
                  go_quiet (fail)
                  rename_i nq
                  obtain ⟨V2, hV2⟩ : ∃ V2, V.drewN nq = V2 := ⟨_, rfl⟩
                  have HB2x : Hid (V2.heap = V.heap ∧ V2.os = V.os ∧ V2.tape = V.tape ∧ V2.output = V.output) := Lib.hid (by rw [← hV2]; exact ⟨rfl, rfl, rfl, rfl⟩)
                  have k13'' : V2.cell? ⟨nB, 0, none⟩ = some (.int .i64 1) := by rw [← hV2]; exact k13
                  rw [hV2]
                  clear hV2 k13 k14 k8 hlv
                  go_wp2_with fail
                  rw [rounds_succ]
                  obtain ⟨V3, hV3⟩ : ∃ V3, V2.alloc (.cells #[.int .i64 2] 3) = V3 := ⟨_, rfl⟩
                  have hb3 : Below V2.heap.size V2 V3 := by rw [← hV3]; exact (Below.refl _ _).alloc (Nat.le_refl _) _
                  have hx3 : V3.heap[V2.heap.size]? = some (.cells #[.int .i64 2] 3 (0, 0)) := by rw [← hV3]; exact heap_alloc_new V2 _
                  have hrb3 : V3.heap[w.heap.size + 1]? = some (.cells #[.bool false] 4 (0, 0)) := (hb3.block _ (by rw [HB2x.out.1]; exact block_lt HBV.out.2.2.2.2.1)).trans (by rw [HB2x.out.1]; exact HBV.out.2.2.2.2.1)
                  have hd2 : V3.heap[D2]? = some (.deferred (some [])) := (hb3.block _ (by rw [HB2x.out.1]; exact (Array.getElem?_eq_some_iff.1 HBV.out.2.1).1)).trans (by rw [HB2x.out.1]; exact HBV.out.2.1)
                  have hd1 : V3.heap[D]? = some (.deferred (some [])) := (hb3.block _ (by rw [HB2x.out.1]; exact (Array.getElem?_eq_some_iff.1 HBV.out.2.2.1).1)).trans (by rw [HB2x.out.1]; exact HBV.out.2.2.1)
                  have hne12 : D ≠ D2 := fun e => by have h1 := (Array.getElem?_eq_some_iff.1 HDb.out.1).1; have := HBV.out.2.2.2.2.2; omega
                  have hbw3 : Below w.heap.size w V3 := (show Below w.heap.size w V2 from ⟨HB2x.out.2.1.trans HBV.out.2.2.2.1.os, HB2x.out.2.2.1.trans HBV.out.2.2.2.1.tape, HB2x.out.2.2.2.trans HBV.out.2.2.2.1.output, by rw [HB2x.out.1]; exact HBV.out.2.2.2.1.size, fun k hk => by rw [HB2x.out.1]; exact HBV.out.2.2.2.1.block k hk⟩).trans (hb3.mono (by rw [HB2x.out.1]; exact HBV.out.2.2.2.1.size))
                  have x13 := cell_of (i := 0) hx3 rfl
                  have r0 := cell_of (i := 0) hrb3 rfl
                  have z0 := frozen_of (i := 0) hrb3
                  have HE3 := Lib.hid (And.intro hrb3 (And.intro hd2 (And.intro hd1 (And.intro hne12 hbw3))))
                  rw [hV3]
                  clear hV3 hb3 hx3 hrb3 hd2 hd1 hne12 hbw3 k13''
                  go_wp2_with fail
                  have hrbD : ∀ {k : Nat} {o : Obj}, V3.heap[k]? = some o → (∀ c t z, o ≠ .cells c t z) → (V3.setCell ⟨w.heap.size + 1, 0, none⟩ (.bool true)).heap[k]? = some o := fun {k o} h hc => (setCell_other (fun e => by
                    subst e
                    rw [HE3.out.1] at h
                    exact hc _ _ _ (Option.some.inj h).symm) _).trans h
                  have t2 := hrbD HE3.out.2.1 (fun _ _ _ h => by cases h)
                  have t1 := hrbD HE3.out.2.2.1 (fun _ _ _ h => by cases h)
                  have t1' := (World.putObj_heap_other (w := V3.setCell ⟨w.heap.size + 1, 0, none⟩ (.bool true)) (o := .deferred none) HE3.out.2.2.2.1).trans t1
                  have hc1 : ((V3.setCell ⟨w.heap.size + 1, 0, none⟩ (.bool true)).putObj D2 (.deferred none)).putObj D (.deferred none) |>.heap[w.heap.size + 1]? = some (.cells #[.bool true] 4 (0, 0)) := by
                    have h0 := setCell_same (off := 0) HE3.out.1 (.bool true)
                    rw [World.putObj_heap_other (fun e => by rw [← e, h0] at t1; cases t1), World.putObj_heap_other (fun e => by rw [← e, h0] at t2; cases t2)]
                    exact h0
                  have hbz : Below w.heap.size w (((V3.setCell ⟨w.heap.size + 1, 0, none⟩ (.bool true)).putObj D2 (.deferred none)).putObj D (.deferred none)) := by
                    have h1 : Below w.heap.size w (V3.setCell ⟨w.heap.size + 1, 0, none⟩ (.bool true)) := HE3.out.2.2.2.2.setCell (p := ⟨w.heap.size + 1, 0, none⟩) (by show w.heap.size ≤ w.heap.size + 1; omega) _
                    have hDn : w.heap.size ≤ D := by have := HDb.out.2; have := HSzA.out; have := HNum.out; omega
                    have hD2n : w.heap.size ≤ D2 := by have := HBV.out.2.2.2.2.2; have := HSzB.out; have := HnB.out; have := HNum.out; omega
                    exact ⟨h1.os, h1.tape, h1.output, by simpa [World.putObj] using h1.size, fun k hk => by
                      rw [World.putObj_heap_other (by omega), World.putObj_heap_other (by omega)]
                      exact h1.block k hk⟩
                  refine ⟨by simp, .inl ⟨_, _, rfl, run_takeDeferred t2, ⟨by simp, .inl ⟨_, _, rfl, run_takeDeferred t1', ?_⟩⟩⟩⟩
                  exact ⟨_, results_boolC rfl _ _ (w.heap.size + 1) true rfl (cell_of hc1 rfl), rfl, hbz⟩
                case stop1 =>
                  rintro D2 c pre V hD hS ⟨rfl, hn⟩ hK
                  exact absurd hS hn
end Go.Proofs.Ytaomneenflkpeaa
