/-
  The walk over the reference's put, of a name that is new.
-/
import Derived.Test.YtlekffhacmdnnaaRpW
namespace Go.Proofs.Ytlekffhacmdnnaa
open Go.RowKit

theorem take_in {α β : Type} {a : List α} {b : List β} {i k : Nat} {x : α} {y : β} (hx : (a.take i)[k]? = some x) (hy : (b.take i)[k]? = some y) : a[k]? = some x ∧ b[k]? = some y := by
  have hk := (List.getElem?_eq_some_iff.1 hx).1
  rw [List.length_take] at hk
  rw [List.getElem?_take_of_lt (by omega)] at hx hy
  exact ⟨hx, hy⟩
/-- Two lists of one length, with one more element between. -/
theorem pair_mid {α β : Type} {a : List α} {b : List β} (h : b.length = a.length) {i : Nat} (hi : i ≤ a.length) {f x : α} {u y : β} {k : Nat} (hx : (a.take i ++ f :: a.drop i)[k]? = some x) (hy : (b.take i ++ u :: b.drop i)[k]? = some y) : (x = f ∧ y = u) ∨ ∃ m : Nat, a[m]? = some x ∧ b[m]? = some y := by
  by_cases hk : k < i
  · rw [List.getElem?_append_left (by rw [List.length_take]; omega), List.getElem?_take_of_lt hk] at hx hy
    exact .inr ⟨k, hx, hy⟩
  · rw [List.getElem?_append_right (by rw [List.length_take]; omega), List.length_take, Nat.min_eq_left hi] at hx
    rw [List.getElem?_append_right (by rw [List.length_take]; omega), List.length_take, Nat.min_eq_left (by omega)] at hy
    rcases e : k - i with _ | j
    · rw [e] at hx hy
      exact .inl ⟨by simpa using hx.symm, by simpa using hy.symm⟩
    · rw [e, List.getElem?_cons_succ, List.getElem?_drop] at hx hy
      exact .inr ⟨_, hx, hy⟩
/-- A new row of one file. -/
theorem Sf.one (w : World) (f : Fl) (u : Value) (t : TypeId) : Sf (w.alloc (.cells #[.string ⟨f.name.toArray⟩, u, .int .i64 (f.synced : Int)] t)) (.slice (some ⟨w.heap.size, 0, none⟩) 1 1) [f] [u] :=
  ⟨_, _, rfl, rfl, Nat.le_refl _, by omega, (fun e => by cases e), fun j x hx => ⟨w.heap.size, 0, rfl, by simp, by
    rw [Nat.zero_add]
    exact cell_of (heap_alloc_new w _) (by simpa [cellsF] using hx)⟩⟩

theorem Sf.keepB {w w' : World} {g n m : Nat} {fs : List Fl} {us : List Value} (h : Sf w (.slice (some ⟨g, 0, none⟩) n m) fs us) (hs : w.heap.size ≤ w'.heap.size) (hb : w'.heap[g]? = w.heap[g]?) : Sf w' (.slice (some ⟨g, 0, none⟩) n m) fs us := by
  obtain ⟨p, cap, e, h1, h2, h3, h4, h5⟩ := h
  refine ⟨p, cap, e, h1, h2, h3, h4, fun j x hx => ?_⟩
  obtain ⟨b, off, e2, hlt, hc⟩ := h5 j x hx
  refine ⟨b, off, e2, Nat.lt_of_lt_of_le hlt hs, (World.cell?_of_block ?_).trans hc⟩
  injection e with e3 _ _
  obtain ⟨rfl, _⟩ : g = b ∧ 0 = off := by rw [e2] at e3; simpa using e3
  exact hb
set_option maxRecDepth 100000 in
set_option maxHeartbeats 2000000 in
theorem rput_new (w : World) (S : Nat → Prop) (rb : Nat) (D : Dsk) (h : Rf w S rb D) (f' : Fl) (u : Value) (hu : InS S w u f'.data) (hn : look f'.name D.files = none) (hle : f'.synced ≤ f'.data.length) (hnm : f'.name.length ≤ 64) (hroom : used (put f' D.files) ≤ D.size) (hcnt : D.files.length ≤ 1099511627774) :
    Calls Try.prog 57 #[.pointer (some ⟨rb, 0, none⟩), .agg #[.string ⟨f'.name.toArray⟩, u, .int .i64 (f'.synced : Int)]] w fun e w' => e = .returned (.tuple #[]) ∧ Rf w' (More S w.heap.size) rb { D with files := put f' D.files } ∧ Fr S w w' := by
  obtain ⟨p0, cap0, rfl, hl0, hu0, hv0, hc0⟩ := hu.rd.form
  have HF0 : ∀ w1, Below w.heap.size w w1 → Rf w1 S rb D := fun w1 hb => h.after hb
  obtain ⟨fv, us, h⟩ := h
  have hplc := plc_le f'.name D.files
  have HPut := Lib.hid (put_new (f := f') hn)
  obtain ⟨P, hP⟩ : ∃ P, plc f'.name D.files = P := ⟨_, rfl⟩
  rw [hP] at hplc HPut
  obtain ⟨v1, hs1, hr1⟩ := h.sf.take (k := P) hplc
  obtain ⟨v2, hs2, hr2⟩ := h.sf.drop (k := P) hplc
  have HHlt := h.lt
  have HH := Lib.hid h
  have HU := Lib.hid hu
  have c1 := h.c1
  have z1 := h.fz 1
  have HS1 := Lib.hid hs1
  have HS2 := Lib.hid hs2
  obtain ⟨W, hW⟩ : ∃ W, w.alloc (.cells #[.string ⟨f'.name.toArray⟩, .slice p0 f'.data.length cap0, .int .i64 (f'.synced : Int)] 73) = W := ⟨_, rfl⟩
  have hB : Below w.heap.size w W := by rw [← hW]; exact (Below.refl _ w).alloc (Nat.le_refl _) _
  have HF := find_any W S rb D (HF0 W hB) f'.name
  rw [hP, hn] at HF
  have d0 : W.cell? ⟨w.heap.size, 0, none⟩ = some (.string ⟨f'.name.toArray⟩) := by rw [← hW]; exact cell_of (heap_alloc_new w _) rfl
  have d1 : W.cell? ⟨w.heap.size, 1, none⟩ = some (.slice p0 f'.data.length cap0) := by rw [← hW]; exact cell_of (heap_alloc_new w _) rfl
  have d2 : W.cell? ⟨w.heap.size, 2, none⟩ = some (.int .i64 (f'.synced : Int)) := by rw [← hW]; exact cell_of (heap_alloc_new w _) rfl
  have hWs : W.heap.size = w.heap.size + 1 := by rw [← hW]; simp
  have c10 := c1
  have c1W : W.cell? ⟨rb, 1, none⟩ = some fv := (below_cells hB rb 1 HHlt).trans c1
  have HB := Lib.hid hB
  have HWs := Lib.hid hWs
  have one1 : Hid (∀ u ∈ us.take P, u.oneCell' = true) := Lib.hid fun u hu => h.ones u (List.mem_of_mem_take hu)
  have one2 : Hid (∀ u ∈ us.drop P, u.oneCell' = true) := Lib.hid fun u hu => h.ones u (List.mem_of_mem_drop hu)
  have oneu : Hid (∀ x ∈ [Value.slice p0 f'.data.length cap0], x.oneCell' = true) := Lib.hid (by simp [Value.oneCell'])
  have len1 : Hid (([] : List Fl).length + (D.files.take P).length ≤ 1099511627776) := Lib.hid (by simp; omega)
  have len2 : Hid (([] ++ D.files.take P).length + [f'].length ≤ 1099511627776) := Lib.hid (by simp; omega)
  have len3 : Hid ((([] ++ D.files.take P) ++ [f']).length + (D.files.drop P).length ≤ 1099511627776) := Lib.hid (by simp; omega)
  rw [← hW] at HF d0 d1 d2 c1W
  have HW := Lib.hid hW
  clear hn hP h hs1 hs2 hu hB HF0 hc0 hu0 hl0 hWs hW c1
  go_enter Try.func57, Try.ntmps57
  go_wp2_with fail
  refine HF.mono ?_
  rintro e w' ⟨rfl, n, rfl⟩
  clear HF
  go_wp2_with fail
  obtain ⟨X, hX⟩ : ∃ X, (w.alloc (.cells #[.string ⟨f'.name.toArray⟩, .slice p0 f'.data.length cap0, .int .i64 (f'.synced : Int)] 73)).drewN n = X := ⟨_, rfl⟩
  have hXB : Below w.heap.size w X.drew := by rw [← hX, HW.out]; exact below_drew (below_drewN HB.out n)
  have hXs : X.heap.size = w.heap.size + 1 := by rw [← hX, HW.out]; exact HWs.out
  have d0 : X.cell? ⟨w.heap.size, 0, none⟩ = some (.string ⟨f'.name.toArray⟩) := by rw [← hX]; exact d0
  have d1 : X.cell? ⟨w.heap.size, 1, none⟩ = some (.slice p0 f'.data.length cap0) := by rw [← hX]; exact d1
  have d2 : X.cell? ⟨w.heap.size, 2, none⟩ = some (.int .i64 (f'.synced : Int)) := by rw [← hX]; exact d2
  have c1 : X.cell? ⟨rb, 1, none⟩ = some fv := by rw [← hX]; exact c1W
  rw [hX]
  have HX : Hid (w.heap.size + 1 = X.heap.size) := Lib.hid hXs.symm
  have HXB := Lib.hid hXB
  clear hX hXB hXs c1W HW
  -- what is read stays, whatever is made
  have hold : ∀ (Y : World) (o : Obj) (b off : Nat) (v : Value), b < Y.heap.size → Y.cell? ⟨b, off, none⟩ = some v → (Y.alloc o).cell? ⟨b, off, none⟩ = some v := fun Y o b off v hb hc => (World.cell?_of_block (alloc_old hb o)).trans hc
  have hrb0 : rb < X.heap.size := Nat.lt_of_lt_of_le HHlt HXB.out.size
  have hk0 : w.heap.size < X.heap.size := by have := HX.out; omega
  have c1A := hold X (.cells #[] 73) rb 1 fv hrb0 c1
  have d0A := hold X (.cells #[] 73) w.heap.size 0 _ hk0 d0
  have d1A := hold X (.cells #[] 73) w.heap.size 1 _ hk0 d1
  have d2A := hold X (.cells #[] 73) w.heap.size 2 _ hk0 d2
  have c1B := hold X (.cells #[.string ⟨f'.name.toArray⟩, .slice p0 f'.data.length cap0, .int .i64 (f'.synced : Int)] 73) rb 1 fv hrb0 c1
  have c1AB := hold (X.alloc (.cells #[] 73)) (.cells #[.string ⟨f'.name.toArray⟩, .slice p0 f'.data.length cap0, .int .i64 (f'.synced : Int)] 73) rb 1 fv (by simp; omega) c1A
  have c1BA := hold (X.alloc (.cells #[.string ⟨f'.name.toArray⟩, .slice p0 f'.data.length cap0, .int .i64 (f'.synced : Int)] 73)) (.cells #[] 73) rb 1 fv (by simp; omega) c1B
  have hbA : Below w.heap.size w (X.drew.alloc (.cells #[] 73)) := HXB.out.alloc HXB.out.size _
  have hbB : Below w.heap.size w (X.drew.alloc (.cells #[.string ⟨f'.name.toArray⟩, .slice p0 f'.data.length cap0, .int .i64 (f'.synced : Int)] 73)) := HXB.out.alloc HXB.out.size _
  have hbAB : Below w.heap.size w ((X.drew.alloc (.cells #[] 73)).alloc (.cells #[.string ⟨f'.name.toArray⟩, .slice p0 f'.data.length cap0, .int .i64 (f'.synced : Int)] 73)) := hbA.alloc hbA.size _
  have hbBA : Below w.heap.size w ((X.drew.alloc (.cells #[.string ⟨f'.name.toArray⟩, .slice p0 f'.data.length cap0, .int .i64 (f'.synced : Int)] 73)).alloc (.cells #[] 73)) := hbB.alloc hbB.size _
  have HA : Hid (OwnF (X.drew.alloc (.cells #[] 73)) w.heap.size (.slice (some ⟨X.heap.size, 0, none⟩) 0 0) [] [] ∧ Sf (X.drew.alloc (.cells #[] 73)) v1 (D.files.take P) (us.take P) ∧ Below w.heap.size w (X.drew.alloc (.cells #[] 73))) :=
    Lib.hid ⟨OwnF.lit X.drew w.heap.size HXB.out.size, HS1.out.keep hbA, hbA⟩
  have HAB : Hid (OwnF ((X.drew.alloc (.cells #[] 73)).alloc (.cells #[.string ⟨f'.name.toArray⟩, .slice p0 f'.data.length cap0, .int .i64 (f'.synced : Int)] 73)) w.heap.size (.slice (some ⟨X.heap.size, 0, none⟩) 0 0) [] [] ∧ Sf ((X.drew.alloc (.cells #[] 73)).alloc (.cells #[.string ⟨f'.name.toArray⟩, .slice p0 f'.data.length cap0, .int .i64 (f'.synced : Int)] 73)) v1 (D.files.take P) (us.take P) ∧ Below w.heap.size w ((X.drew.alloc (.cells #[] 73)).alloc (.cells #[.string ⟨f'.name.toArray⟩, .slice p0 f'.data.length cap0, .int .i64 (f'.synced : Int)] 73))) :=
    Lib.hid ⟨(OwnF.lit X.drew w.heap.size HXB.out.size).keep (fun k hk => by obtain rfl := Option.some.inj hk; exact alloc_old (by simp) _), HS1.out.keep hbAB, hbAB⟩
  have HBA : Hid (OwnF ((X.drew.alloc (.cells #[.string ⟨f'.name.toArray⟩, .slice p0 f'.data.length cap0, .int .i64 (f'.synced : Int)] 73)).alloc (.cells #[] 73)) w.heap.size (.slice (some ⟨X.heap.size + 1, 0, none⟩) 0 0) [] [] ∧ Sf ((X.drew.alloc (.cells #[.string ⟨f'.name.toArray⟩, .slice p0 f'.data.length cap0, .int .i64 (f'.synced : Int)] 73)).alloc (.cells #[] 73)) v1 (D.files.take P) (us.take P) ∧ Below w.heap.size w ((X.drew.alloc (.cells #[.string ⟨f'.name.toArray⟩, .slice p0 f'.data.length cap0, .int .i64 (f'.synced : Int)] 73)).alloc (.cells #[] 73))) := by
    have h1 := OwnF.lit (X.drew.alloc (.cells #[.string ⟨f'.name.toArray⟩, .slice p0 f'.data.length cap0, .int .i64 (f'.synced : Int)] 73)) w.heap.size hbB.size
    rw [show (X.drew.alloc (.cells #[.string ⟨f'.name.toArray⟩, .slice p0 f'.data.length cap0, .int .i64 (f'.synced : Int)] 73)).heap.size = X.heap.size + 1 by simp] at h1
    exact Lib.hid ⟨h1, HS1.out.keep hbBA, hbBA⟩
  have HSfAB : Hid (Sf ((X.drew.alloc (.cells #[] 73)).alloc (.cells #[.string ⟨f'.name.toArray⟩, .slice p0 f'.data.length cap0, .int .i64 (f'.synced : Int)] 73)) (.slice (some ⟨X.heap.size + 1, 0, none⟩) 1 1) [f'] [(.slice p0 f'.data.length cap0)]) := by
    have h1 := Sf.one (X.drew.alloc (.cells #[] 73)) f' (.slice p0 f'.data.length cap0) 73
    rw [show (X.drew.alloc (.cells #[] 73)).heap.size = X.heap.size + 1 by simp] at h1
    exact Lib.hid h1
  have HSfBA : Hid (Sf ((X.drew.alloc (.cells #[.string ⟨f'.name.toArray⟩, .slice p0 f'.data.length cap0, .int .i64 (f'.synced : Int)] 73)).alloc (.cells #[] 73)) (.slice (some ⟨X.heap.size, 0, none⟩) 1 1) [f'] [(.slice p0 f'.data.length cap0)]) := Lib.hid ((Sf.one X.drew f' (.slice p0 f'.data.length cap0) 73).keep ((Below.refl _ _).alloc (Nat.le_refl _) _))
  clear hbA hbB hbAB hbBA hold
  go_region_law (first
    | (refine step_append_F rfl (.tmp 22) (.tmp 28) rfl w.heap.size (v := .slice (some ⟨X.heap.size, 0, none⟩) 0 0) (u := v1) (by simp [Act.eval, Act.put]) (by simp [Act.eval, Act.put]) HA.out.1 HA.out.2.1 one1.out len1.out HA.out.2.2.size ?_
       intro y1 w1 ho1 hg1 ha1
       have hb1 : Below w.heap.size w w1 := HA.out.2.2.grown (by exact hg1) HA.out.2.2.size HA.out.1.low
       have e0 : w1.heap[w.heap.size]? = (X.drew.alloc (.cells #[] 73)).heap[w.heap.size]? := hg1.block w.heap.size (by simp; omega) (fun e => absurd (Option.some.inj e) (Nat.ne_of_lt hk0))
       have d0C := (World.cell?_of_block e0).trans d0A
       have d1C := (World.cell?_of_block e0).trans d1A
       have d2C := (World.cell?_of_block e0).trans d2A
       have HO2 : Hid (OwnF (w1.alloc (.cells #[.string ⟨f'.name.toArray⟩, .slice p0 f'.data.length cap0, .int .i64 (f'.synced : Int)] 73)) w.heap.size y1 ([] ++ D.files.take P) ([] ++ us.take P)) := Lib.hid (ho1.keep fun k hk => alloc_old (World.ownsRow.lt ho1.2 k hk).2 _)
       have HSf2 := Lib.hid (Sf.one w1 f' (.slice p0 f'.data.length cap0) 73)
       have HB2 : Hid (Below w.heap.size w (w1.alloc (.cells #[.string ⟨f'.name.toArray⟩, .slice p0 f'.data.length cap0, .int .i64 (f'.synced : Int)] 73))) := Lib.hid (hb1.alloc hb1.size _)
       clear ho1 hg1 ha1 hb1 e0)
    | (refine step_append_F rfl (.tmp 22) (.tmp 28) rfl w.heap.size (v := .slice (some ⟨X.heap.size, 0, none⟩) 0 0) (u := v1) (by simp [Act.eval, Act.put]) (by simp [Act.eval, Act.put]) HAB.out.1 HAB.out.2.1 one1.out len1.out HAB.out.2.2.size ?_
       intro y1 w1 ho1 hg1 ha1
       have hb1 : Below w.heap.size w w1 := HAB.out.2.2.grown (by exact hg1) HAB.out.2.2.size HAB.out.1.low
       have e0 : w1.heap[X.heap.size + 1]? = _ := hg1.block (X.heap.size + 1) (by simp) (fun e => absurd (Option.some.inj e) (Nat.succ_ne_self _))
       have HO2 : Hid (OwnF w1 w.heap.size y1 ([] ++ D.files.take P) ([] ++ us.take P)) := Lib.hid ho1
       have HSf2 := Lib.hid (HSfAB.out.keepB hg1.size e0)
       have HB2 : Hid (Below w.heap.size w w1) := Lib.hid hb1
       clear ho1 hg1 ha1 hb1 e0)
    | (refine step_append_F rfl (.tmp 22) (.tmp 28) rfl w.heap.size (v := .slice (some ⟨X.heap.size + 1, 0, none⟩) 0 0) (u := v1) (by simp [Act.eval, Act.put]) (by simp [Act.eval, Act.put]) HBA.out.1 HBA.out.2.1 one1.out len1.out HBA.out.2.2.size ?_
       intro y1 w1 ho1 hg1 ha1
       have hb1 : Below w.heap.size w w1 := HBA.out.2.2.grown (by exact hg1) HBA.out.2.2.size HBA.out.1.low
       have e0 : w1.heap[X.heap.size]? = _ := hg1.block (X.heap.size) (by simp; omega) (fun e => absurd (Option.some.inj e) (Nat.ne_of_lt (Nat.lt_succ_self _)))
       have HO2 : Hid (OwnF w1 w.heap.size y1 ([] ++ D.files.take P) ([] ++ us.take P)) := Lib.hid ho1
       have HSf2 := Lib.hid (HSfBA.out.keepB hg1.size e0)
       have HB2 : Hid (Below w.heap.size w w1) := Lib.hid hb1
       clear ho1 hg1 ha1 hb1 e0)
    | (refine step_append_F rfl (.tmp 29) (.tmp 31) rfl w.heap.size (v := y1) (by rfl) (by rfl) HO2.out HSf2.out oneu.out len2.out HB2.out.size ?_
       intro y2 w2 ho2 hg2 ha2
       have hb3 : Below w.heap.size w w2 := HB2.out.grown (by exact hg2) HB2.out.size HO2.out.low
       have c1c : w2.cell? ⟨rb, 1, none⟩ = some fv := (below_cells hb3 rb 1 HHlt).trans c10
       have z1c : w2.frozen? ⟨rb, 1, none⟩ = false := (hb3.frozen (p := ⟨rb, 1, none⟩) HHlt).trans z1
       have HO3 := Lib.hid ho2
       have HB3 := Lib.hid hb3
       clear ho2 hg2 ha2 hb3))
  all_goals
    clear c1A d0A d1A d2A c1B c1AB c1BA d0 d1 d2 c1
    go_wp2_with (at_builtin; refine wpList_append_F rfl (.tmp 34) (.tmp 40) rfl w.heap.size rfl rfl HO3.out (HS2.out.keep HB3.out) one2.out len3.out HB3.out.size ?_; intro y3 w3 ho3 hg3 ha3; have hb4 : Below w.heap.size w w3 := HB3.out.grown (by exact hg3) HB3.out.size HO3.out.low; have c1d : w3.cell? ⟨rb, 1, none⟩ = some fv := (below_cells hb4 rb 1 HHlt).trans c10; have z1d : w3.frozen? ⟨rb, 1, none⟩ = false := (hb4.frozen (p := ⟨rb, 1, none⟩) HHlt).trans z1; have HO4 := Lib.hid ho3; obtain ⟨n3, p3, cap3, rfl⟩ := ho3.shape; have HB4 := Lib.hid hb4; clear ho3 hg3 ha3 hb4)
    go_end0
    have ho2 := HO4.out
    rw [List.nil_append, List.nil_append, List.append_assoc, List.append_assoc, List.singleton_append, List.singleton_append, ← HPut.out] at ho2
    have hD := HH.out
    have hle2 : ∀ g ∈ put f' D.files, g = f' ∨ g ∈ D.files := fun g hg => (mem_put.1 hg).imp id And.left
    obtain ⟨h1, h2⟩ := hD.lay HB4.out ho2 (fun k f u h1 h2 => by
      rw [HPut.out] at h1
      rcases pair_mid hD.len hplc h1 h2 with ⟨rfl, rfl⟩ | ⟨m, h3, h4⟩
      · refine HU.out.keep (fun j hj => ?_) (fun _ _ hs => .inl hs)
        obtain ⟨cur, hc⟩ := HU.out.1.heap hj
        exact HB4.out.block j (block_lt hc)
      · exact hD.old_new HB4.out h3 h4) (fun g hg => (hle2 g hg).elim (fun e => by rw [e]; exact hle) (hD.le g)) (hD.srt.put f') (fun g hg => (hle2 g hg).elim (fun e => by rw [e]; exact hnm) (hD.names g)) hroom
    exact ⟨rfl, h1, h2.mono fun k _ hk => by rw [hk]; exact hD.inS⟩

theorem rput_any (w : World) (S : Nat → Prop) (rb : Nat) (D : Dsk) (h : Rf w S rb D) (f' : Fl) (u : Value) (hu : InS S w u f'.data) (hle : f'.synced ≤ f'.data.length) (hnm : f'.name.length ≤ 64) (hroom : used (put f' D.files) ≤ D.size) (hcnt : D.files.length ≤ 1099511627774) :
    Calls Try.prog 57 #[.pointer (some ⟨rb, 0, none⟩), .agg #[.string ⟨f'.name.toArray⟩, u, .int .i64 (f'.synced : Int)]] w fun e w' => e = .returned (.tuple #[]) ∧ Rf w' (More S w.heap.size) rb { D with files := put f' D.files } ∧ Fr S w w' := by
  rcases e : look f'.name D.files with _ | f
  · exact rput_new w S rb D h f' u hu e hle hnm hroom hcnt
  · exact rput_some w S rb D h f f' u hu e hle hnm hroom
end Go.Proofs.Ytlekffhacmdnnaa
