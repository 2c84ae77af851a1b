/-
  From a table to its sequences: list.from, entries, Table.From, Table.All.
-/
import Derived.Test.YtaomneenflkpeaaSkQ
import Derived.Test.YtaomneenflkpeaaSkT
import Derived.Deep.RegionHeld3
namespace Go.Proofs.Ytaomneenflkpeaa
open Go.RowKit Go.Shelf

theorem an1 (X : World) {w1 : World} {c1 : Array Value} {t1 : TypeId} (hb : Below (X.alloc (.cells c1 t1)).drew.heap.size (X.alloc (.cells c1 t1)).drew w1) : w1.heap[X.heap.size]? = some (.cells c1 t1 (0, 0)) ∧ X.heap.size + 1 ≤ w1.heap.size := by
  have hs := hb.size
  have e : (X.alloc (.cells c1 t1)).drew.heap.size = X.heap.size + 1 := World.size_alloc _ _
  exact ⟨(hb.block _ (by omega)).trans (heap_alloc_new X _), by omega⟩
theorem an2 (X : World) {w1 : World} {c1 c2 : Array Value} {t1 t2 : TypeId} (hb : Below ((X.alloc (.cells c1 t1)).alloc (.cells c2 t2)).drew.heap.size ((X.alloc (.cells c1 t1)).alloc (.cells c2 t2)).drew w1) :
    w1.heap[X.heap.size]? = some (.cells c1 t1 (0, 0)) ∧ w1.heap[X.heap.size + 1]? = some (.cells c2 t2 (0, 0)) ∧ X.heap.size + 2 ≤ w1.heap.size := by
  have hs := hb.size
  have e1 : (X.alloc (.cells c1 t1)).heap.size = X.heap.size + 1 := World.size_alloc _ _
  have e2 : ((X.alloc (.cells c1 t1)).alloc (.cells c2 t2)).drew.heap.size = (X.alloc (.cells c1 t1)).heap.size + 1 := World.size_alloc _ _
  have h2 := heap_alloc_new (X.alloc (.cells c1 t1)) (.cells c2 t2)
  refine ⟨(hb.block _ (by omega)).trans ((alloc_old (by omega) _).trans (heap_alloc_new X _)), (hb.block _ (by omega)).trans ?_, by omega⟩
  rw [← e1]
  exact heap_alloc_new _ _
theorem an3 (X : World) {w1 : World} {c1 c2 c3 : Array Value} {t1 t2 t3 : TypeId} (hb : Below (((X.alloc (.cells c1 t1)).alloc (.cells c2 t2)).alloc (.cells c3 t3)).drew.heap.size (((X.alloc (.cells c1 t1)).alloc (.cells c2 t2)).alloc (.cells c3 t3)).drew w1) :
    w1.heap[X.heap.size]? = some (.cells c1 t1 (0, 0)) ∧ w1.heap[X.heap.size + 1]? = some (.cells c2 t2 (0, 0)) ∧ w1.heap[X.heap.size + 2]? = some (.cells c3 t3 (0, 0)) ∧ X.heap.size + 3 ≤ w1.heap.size := by
  have hs := hb.size
  have e1 : (X.alloc (.cells c1 t1)).heap.size = X.heap.size + 1 := World.size_alloc _ _
  have e2 : ((X.alloc (.cells c1 t1)).alloc (.cells c2 t2)).heap.size = (X.alloc (.cells c1 t1)).heap.size + 1 := World.size_alloc _ _
  have e3 : (((X.alloc (.cells c1 t1)).alloc (.cells c2 t2)).alloc (.cells c3 t3)).drew.heap.size = ((X.alloc (.cells c1 t1)).alloc (.cells c2 t2)).heap.size + 1 := World.size_alloc _ _
  refine ⟨(hb.block _ (by omega)).trans ((alloc_old (by omega) _).trans ((alloc_old (by omega) _).trans (heap_alloc_new X _))), (hb.block _ (by omega)).trans ((alloc_old (by omega) _).trans ?_), (hb.block _ (by omega)).trans ?_, by omega⟩
  · rw [← e1]
    exact heap_alloc_new _ _
  · rw [show X.heap.size + 2 = ((X.alloc (.cells c1 t1)).alloc (.cells c2 t2)).heap.size by omega]
    exact heap_alloc_new _ _

theorem sz_set (A : World) (p : Addr) (v : Value) : (A.setCell p v).heap.size = A.heap.size := by simp [World.setCell]
theorem sc_hit {A : World} {k b : Nat} {v : Value} {t : TypeId} {z : Nat × Nat} (e : b = k) (h : ∃ u, A.heap[k]? = some (.cells #[u] t z)) : (A.setCell ⟨b, 0, none⟩ v).heap[k]? = some (.cells #[v] t z) := by
  subst e
  obtain ⟨u, h⟩ := h
  have := setCell_same (off := 0) h v
  simpa using this
theorem ex_sc {A : World} {k b : Nat} {v : Value} {t : TypeId} {z : Nat × Nat} (e : k ≠ b) (h : ∃ u, A.heap[k]? = some (.cells #[u] t z)) : ∃ u, (A.setCell ⟨b, 0, none⟩ v).heap[k]? = some (.cells #[u] t z) := by
  obtain ⟨u, h⟩ := h
  exact ⟨u, (setCell_other e v).trans h⟩
theorem ex_al {A : World} {k : Nat} {x : Obj} {t : TypeId} {z : Nat × Nat} (e : k < A.heap.size) (h : ∃ u, A.heap[k]? = some (.cells #[u] t z)) : ∃ u, (A.alloc x).heap[k]? = some (.cells #[u] t z) := by
  obtain ⟨u, h⟩ := h
  exact ⟨u, (alloc_old e x).trans h⟩
theorem ex_at {A : World} {k k' : Nat} {u : Value} {t : TypeId} {z : Nat × Nat} (h : A.heap[k']? = some (.cells #[u] t z)) (e : k' = k) : ∃ u, A.heap[k]? = some (.cells #[u] t z) := by
  subst e
  exact ⟨u, h⟩
theorem sc_miss {A : World} {k b : Nat} {v : Value} {o : Option Obj} (e : k ≠ b) (h : A.heap[k]? = o) : (A.setCell ⟨b, 0, none⟩ v).heap[k]? = o := (setCell_other e v).trans h
theorem al_hit {A : World} {k : Nat} {v : Value} {t : TypeId} (e : A.heap.size = k) : (A.alloc (.cells #[v] t)).heap[k]? = some (.cells #[v] t (0, 0)) := by
  subst e
  exact heap_alloc_new _ _
theorem al_miss {A : World} {k : Nat} {x : Obj} {o : Option Obj} (e : k < A.heap.size) (h : A.heap[k]? = o) : (A.alloc x).heap[k]? = o := (alloc_old e x).trans h

set_option linter.unusedSimpArgs false in
set_option maxRecDepth 100000 in
set_option maxHeartbeats 8000000 in
theorem sk_from (w : World) (S : Nat → Prop) (mb : Nat) (T : PTb) (sz : Nat) (dv hv : Value) (hh : Nat) (ns : List Nd) (bk : Option Nat) (h : SkAt w S mb T sz dv hv hh ns bk) (x : Ent) :
    Calls Try.prog 49 #[.pointer (some ⟨mb, 2, none⟩), verV x] w fun r w' => ∃ sb fb cb, r = .returned (.func (.func 62) #[] #[.pointer (some ⟨sb, 0, none⟩), .pointer (some ⟨fb, 0, none⟩), .pointer (some ⟨cb, 0, none⟩)]) ∧ Below w.heap.size w w' ∧
      w.heap.size ≤ sb ∧ w.heap.size ≤ fb ∧ w.heap.size ≤ cb ∧ w'.heap[sb]? = some (.cells #[pv bk] 63 (0, 0)) ∧ w'.heap[fb]? = some (.cells #[pv (ndAt ns (plcE x T.L))] 73 (0, 0)) ∧ w'.heap[cb]? = some (.cells #[.int .i64 (ns.length : Int)] 3 (0, 0)) := by
  obtain ⟨P, hP⟩ : ∃ P, plcE x T.L = P := ⟨_, rfl⟩
  obtain ⟨p0, hp0⟩ : ∃ p0, pv (ndAt ns P) = .pointer p0 := ⟨_, rfl⟩
  obtain ⟨q, hq⟩ : ∃ q, pv bk = .pointer q := ⟨_, rfl⟩
  obtain ⟨X, hX⟩ : ∃ X, w.alloc (.cells #[.string ⟨x.key.toArray⟩, .int .u64 (x.seq : Int), .bool x.gone, .string ⟨x.val.toArray⟩] 59) = X := ⟨_, rfl⟩
  have hb : Below w.heap.size w X := by rw [← hX]; exact (Below.refl _ _).alloc (Nat.le_refl _) _
  have hXs : X.heap.size = w.heap.size + 1 := by rw [← hX]; simp
  have hx0 : X.heap[w.heap.size]? = some (.cells #[.string ⟨x.key.toArray⟩, .int .u64 (x.seq : Int), .bool x.gone, .string ⟨x.val.toArray⟩] 59 (0, 0)) := by
    rw [← hX]
    exact heap_alloc_new w _
  have k0 := cell_of (i := 0) hx0 rfl
  have k1 := cell_of (i := 1) hx0 rfl
  have k2 := cell_of (i := 2) hx0 rfl
  have k3 := cell_of (i := 3) hx0 rfl
  have hmX := (hb.block mb (block_lt h.blk)).trans h.blk
  have m8 : X.cell? ⟨mb, 8, none⟩ = some (.int .i64 (ns.length : Int)) := cell_of (i := 8) hmX rfl
  have m9 : X.cell? ⟨mb, 9, none⟩ = some (.pointer q) := cell_of (i := 9) hmX (by rw [← hq]; rfl)
  have HF : Hid (∀ V, Below X.heap.size X V → Calls Try.prog 31 #[.pointer (some ⟨mb, 2, none⟩), .agg #[.string ⟨x.key.toArray⟩, .int .u64 (x.seq : Int), .bool x.gone, .string ⟨x.val.toArray⟩]] V fun r w' => r = .returned (.pointer p0) ∧ Below X.heap.size X w' ∧ Below V.heap.size V w') := Lib.hid (fun V hV => (sk_first V S mb T sz dv hv hh ns bk (h.after (hb.trans (hV.mono hb.size))) x).mono (by
    rintro r w' ⟨rfl, hw⟩
    rw [hP, hp0]
    exact ⟨rfl, hV.trans (hw.mono hV.size), hw⟩))
  rw [hP, hp0, hq]
  have HK : Hid (∀ V, Below X.heap.size X V → V.cell? ⟨w.heap.size, 0, none⟩ = some (.string ⟨x.key.toArray⟩) ∧ V.cell? ⟨w.heap.size, 1, none⟩ = some (.int .u64 (x.seq : Int)) ∧ V.cell? ⟨w.heap.size, 2, none⟩ = some (.bool x.gone) ∧ V.cell? ⟨w.heap.size, 3, none⟩ = some (.string ⟨x.val.toArray⟩) ∧ V.cell? ⟨mb, 8, none⟩ = some (.int .i64 (ns.length : Int)) ∧ V.cell? ⟨mb, 9, none⟩ = some (.pointer q)) := Lib.hid (fun V hV => ⟨(hV.cell (p := ⟨w.heap.size, 0, none⟩) (cell_lt k0)).trans k0, (hV.cell (p := ⟨w.heap.size, 1, none⟩) (cell_lt k1)).trans k1, (hV.cell (p := ⟨w.heap.size, 2, none⟩) (cell_lt k2)).trans k2, (hV.cell (p := ⟨w.heap.size, 3, none⟩) (cell_lt k3)).trans k3, (hV.cell (p := ⟨mb, 8, none⟩) (cell_lt m8)).trans m8, (hV.cell (p := ⟨mb, 9, none⟩) (cell_lt m9)).trans m9⟩)
  have hsx : X.heap.size ≤ X.heap.size := Nat.le_refl _
  have HD : Hid (Below X.heap.size X X.drew) := Lib.hid (below_drew (Below.refl _ _))
  have HB := Lib.hid hb
  have HXs := Lib.hid hXs
  have hl8 := cell_lt m8
  have hl0 := cell_lt k0
  have hl9 := cell_lt m9
  clear hb hXs hx0 hmX h hq hp0
  unfold verV
  go_enter Try.func49, Try.ntmps49
  go_wp2_with fail
  go_region_held3 (fun w' => w'.cell? ⟨w.heap.size, 0, none⟩ = some (.string ⟨x.key.toArray⟩) ∧ w'.cell? ⟨w.heap.size, 1, none⟩ = some (.int .u64 (x.seq : Int)) ∧ w'.cell? ⟨w.heap.size, 2, none⟩ = some (.bool x.gone) ∧ w'.cell? ⟨w.heap.size, 3, none⟩ = some (.string ⟨x.val.toArray⟩) ∧ w'.cell? ⟨mb, 8, none⟩ = some (.int .i64 (ns.length : Int)) ∧ w'.cell? ⟨mb, 9, none⟩ = some (.pointer q))
    (first | (refine HK.out _ ?_; (repeat (first | exact HB1.out | exact HD.out | exact Below.refl _ _ | (refine below_drew ?_) | (refine Below.setCell ?_ (by first | omega | (simp; done) | (simp; omega) | (simp [World.setCell]; omega)) _) | (refine Below.alloc ?_ (by first | omega | (simp; done) | (simp; omega) | (simp [World.setCell]; omega)) _)))))
    (first
      | (go_at_call 31
         refine (HF.out _ (by repeat (first | exact HB1.out | exact HD.out | exact Below.refl _ _ | (refine below_drew ?_) | (refine Below.setCell ?_ (by first | omega | (simp; done) | (simp; omega) | (simp [World.setCell]; omega)) _) | (refine Below.alloc ?_ (by first | omega | (simp; done) | (simp; omega) | (simp [World.setCell]; omega)) _)))).mono ?_
         rintro r w1 ⟨rfl, hb1, hbv⟩
         have hs1 := hb1.size
         have HB1 := Lib.hid hb1
         obtain ⟨a0, a1, a2, hsz⟩ := an3 X hbv
         have c0 := cell_of (i := 0) a0 rfl
         have z0 := frozen_of (i := 0) a0
         have l00 : X.heap.size < w1.heap.size := (by omega)
         have HA0 := Lib.hid a0
         clear a0
         have c1 := cell_of (i := 0) a1 rfl
         have z1 := frozen_of (i := 0) a1
         have l10 : X.heap.size + 1 < w1.heap.size := (by omega)
         have HA1 := Lib.hid a1
         clear a1
         have c2 := cell_of (i := 0) a2 rfl
         have z2 := frozen_of (i := 0) a2
         have l20 : X.heap.size + 2 < w1.heap.size := (by omega)
         have HA2 := Lib.hid a2
         clear a2
         clear hb1 hbv)
      | (go_at_call 31
         refine (HF.out _ (by repeat (first | exact HB1.out | exact HD.out | exact Below.refl _ _ | (refine below_drew ?_) | (refine Below.setCell ?_ (by first | omega | (simp; done) | (simp; omega) | (simp [World.setCell]; omega)) _) | (refine Below.alloc ?_ (by first | omega | (simp; done) | (simp; omega) | (simp [World.setCell]; omega)) _)))).mono ?_
         rintro r w1 ⟨rfl, hb1, hbv⟩
         have hs1 := hb1.size
         have HB1 := Lib.hid hb1
         obtain ⟨a0, a1, hsz⟩ := an2 X hbv
         have c0 := cell_of (i := 0) a0 rfl
         have z0 := frozen_of (i := 0) a0
         have l00 : X.heap.size < w1.heap.size := (by omega)
         have l01 : X.heap.size < w1.heap.size + 1 := (by omega)
         have n00 : ¬ X.heap.size = w1.heap.size := (by omega)
         have m00 : ¬ w1.heap.size = X.heap.size := (by omega)
         have HA0 := Lib.hid a0
         clear a0
         have c1 := cell_of (i := 0) a1 rfl
         have z1 := frozen_of (i := 0) a1
         have l10 : X.heap.size + 1 < w1.heap.size := (by omega)
         have l11 : X.heap.size + 1 < w1.heap.size + 1 := (by omega)
         have n10 : ¬ X.heap.size + 1 = w1.heap.size := (by omega)
         have m10 : ¬ w1.heap.size = X.heap.size + 1 := (by omega)
         have HA1 := Lib.hid a1
         clear a1
         clear hb1 hbv)
      | (go_at_call 31
         refine (HF.out _ (by repeat (first | exact HB1.out | exact HD.out | exact Below.refl _ _ | (refine below_drew ?_) | (refine Below.setCell ?_ (by first | omega | (simp; done) | (simp; omega) | (simp [World.setCell]; omega)) _) | (refine Below.alloc ?_ (by first | omega | (simp; done) | (simp; omega) | (simp [World.setCell]; omega)) _)))).mono ?_
         rintro r w1 ⟨rfl, hb1, hbv⟩
         have hs1 := hb1.size
         have HB1 := Lib.hid hb1
         obtain ⟨a0, hsz⟩ := an1 X hbv
         have c0 := cell_of (i := 0) a0 rfl
         have z0 := frozen_of (i := 0) a0
         have l00 : X.heap.size < w1.heap.size := (by omega)
         have l01 : X.heap.size < w1.heap.size + 1 := (by omega)
         have l02 : X.heap.size < w1.heap.size + 2 := (by omega)
         have n00 : ¬ X.heap.size = w1.heap.size := (by omega)
         have m00 : ¬ w1.heap.size = X.heap.size := (by omega)
         have n01 : ¬ X.heap.size = w1.heap.size + 1 := (by omega)
         have m01 : ¬ w1.heap.size + 1 = X.heap.size := (by omega)
         have HA0 := Lib.hid a0
         clear a0
         clear hb1 hbv)
      | (go_at_call 31
         refine (HF.out _ (by repeat (first | exact HB1.out | exact HD.out | exact Below.refl _ _ | (refine below_drew ?_) | (refine Below.setCell ?_ (by first | omega | (simp; done) | (simp; omega) | (simp [World.setCell]; omega)) _) | (refine Below.alloc ?_ (by first | omega | (simp; done) | (simp; omega) | (simp [World.setCell]; omega)) _)))).mono ?_
         rintro r w1 ⟨rfl, hb1, hbv⟩
         have hs1 := hb1.size
         have HB1 := Lib.hid hb1
         clear hb1 hbv))
  all_goals
    go_wp2_with fail
    go_ret
    have hw := HB.out.size
    have hx := HXs.out
    refine ⟨_, _, _, rfl, HB.out.trans (Below.mono ?_ hw), by omega, by omega, by omega, ?_, ?_, ?_⟩
    · repeat (first | with_reducible exact HB1.out | (with_reducible refine Below.setCell ?_ (by first | omega | (simp only [World.size_alloc, sz_set] <;> omega)) _) | (with_reducible refine Below.alloc ?_ (by first | omega | (simp only [World.size_alloc, sz_set] <;> omega)) _))
    all_goals repeat (first | (with_reducible refine sc_hit (by first | omega | (simp only [World.size_alloc, sz_set] <;> omega)) ?_) | (with_reducible refine sc_miss (by first | omega | (simp only [World.size_alloc, sz_set] <;> omega)) ?_) | with_reducible exact al_hit (by first | omega | (simp only [World.size_alloc, sz_set] <;> omega)) | (with_reducible refine al_miss (by first | omega | (simp only [World.size_alloc, sz_set] <;> omega)) ?_) | with_reducible exact ex_at HA0.out (by omega) | with_reducible exact ex_at HA1.out (by omega) | with_reducible exact ex_at HA2.out (by omega) | (with_reducible refine ex_sc (by first | omega | (simp only [World.size_alloc, sz_set] <;> omega)) ?_) | (with_reducible refine ex_al (by first | omega | (simp only [World.size_alloc, sz_set] <;> omega)) ?_))
end Go.Proofs.Ytaomneenflkpeaa
