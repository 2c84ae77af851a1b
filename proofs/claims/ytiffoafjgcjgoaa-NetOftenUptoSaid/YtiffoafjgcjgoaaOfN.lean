/-
  The walk over NetOften.
-/
import Derived.Test.YtiffoafjgcjgoaaActN
namespace Go.Proofs.Ytiffoafjgcjgoaa
open Go.RowKit

/-- All texts are of one byte. -/
def Ones (N : PNet) : Prop := ∀ m ∈ N.L, m.txt.length = 1
theorem Ones.lay1 {N : PNet} (h : Ones N) (f t : Int) {s : List UInt8} (hs : s.length = 1) : Ones (lay1 N f t s) := by
  unfold Go.Proofs.Ytiffoafjgcjgoaa.lay1
  split
  · intro m hm
    rcases List.mem_append.1 hm with hm | hm
    · exact h m hm
    · obtain rfl : m = _ := by simpa using hm
      exact hs
  · exact h
theorem Ones.sends (f : Int) {s : List UInt8} (hs : s.length = 1) : ∀ (l : List Int) (N : PNet), Ones N → Ones (sends f s N l)
  | [], _, h => h
  | t :: r, _, h => Ones.sends f hs r _ (h.lay1 f t hs)
theorem Ones.take1 {N : PNet} (h : Ones N) (f t p : Int) : Ones (take1 N f t p) := by
  unfold Go.Proofs.Ytiffoafjgcjgoaa.take1
  split
  · exact fun m hm => h m (rem_mem hm)
  · exact h
theorem Ones.text {N : PNet} (h : Ones N) {f t : Int} (hh : has N f t = true) (p : Int) : (text N f t p).length = 1 := by
  obtain ⟨m, hm, e⟩ := text_mem hh p
  rw [← e]
  exact h m hm
theorem Ones.dbl {N : PNet} (h : Ones N) (f t p : Int) : Ones (dbl N f t p) := by
  unfold Go.Proofs.Ytiffoafjgcjgoaa.dbl
  split
  · rename_i hh
    exact h.lay1 f t (h.text hh p)
  · exact h
theorem dbl_len (N : PNet) (f t p : Int) : (dbl N f t p).L.length = N.L.length + (if dbld N f t = true then 1 else 0) := by
  unfold dbl dbld
  split
  · rename_i hh
    rw [lay1_len]
    unfold laid1
    simp [hh]
  · rename_i hh
    simp [hh]
/-- Ahead of round k. -/
structure Oft (k : Nat) (W w : World) (nb : Nat) (N : PNet) (I O : Int) : Prop where
  nt : Nt w (Iv W.heap.size w.heap.size) nb N
  below : Below W.heap.size W w
  ones : Ones N
  diff : I - O = (N.L.length : Int)
theorem Oft.next {k : Nat} {W B X w : World} {nb : Nat} {N N' : PNet} {I O I' O' : Int} (h : Oft k W B nb N I O) (hb : Below B.heap.size B X) (hd : Nt w (More (Iv W.heap.size B.heap.size) X.heap.size) nb N') (hf : Fr (Iv W.heap.size B.heap.size) X w) (ho : Ones N') (hD : I' - O' = (N'.L.length : Int)) : Oft (k + 1) W w nb N' I' O' := by
  have h1 := h.below.size
  have hx := h.below.trans (hb.mono h1)
  exact ⟨hd.iv (Iv.low _ _) hx.size, hx.trans (hf.iv hx.size (Iv.low _ _)), ho, hD⟩
theorem Oft.after {k : Nat} {W w w' : World} {nb : Nat} {N : PNet} {I O : Int} (h : Oft k W w nb N I O) (hb : Below w.heap.size w w') : Oft k W w' nb N I O :=
  ⟨(h.nt.after hb).mono fun _ hk hs => ⟨hs.1, hk⟩, h.below.trans (hb.mono h.below.size), h.ones, h.diff⟩
theorem byteOf (k : Nat) : (((UInt8.ofNat k).toNat : Nat) : Int) = (k : Int) % 256 := by
  rw [UInt8.toNat_ofNat']
  omega

set_option maxRecDepth 100000 in
set_option maxHeartbeats 8000000 in
theorem often_any (W : World) (v1 : Value) (xs : List PAct) (h1 : RdA W (fun _ => False) v1 xs) (hfit : ∀ x ∈ xs, FitA x) (hxl : xs.length ≤ 1048576) :
    Calls Try.prog 4 #[v1] W fun e w' => e = .returned (.bool true) ∧ Below W.heap.size W w' := by
  have HR0 := Lib.hid h1
  have HFit := Lib.hid hfit
  obtain ⟨p0, cap0, rfl, hc0, hl0, hm0⟩ := h1.form
  clear h1 hfit
  go_enter Try.func4, Try.ntmps4
  go_wp2_with fail
  refine (known_any W).mono ?_
  rintro e w0 ⟨rfl, hb0⟩
  have HB0 := Lib.hid hb0
  clear hb0
  go_wp2_with fail
  refine (few_any w0 (fun j => W.heap.size ≤ j) _ xs (HR0.out.lift HB0.out (Nat.le_refl _))).mono ?_
  rintro e w0' ⟨⟨r, rfl⟩, n0, rfl⟩
  rcases r with _ | _
  · go_wp2_with fail
    go_ret
    exact ⟨rfl, below_drewN HB0.out _⟩
  · go_wp2_with fail
    generalize hw1 : World.drewN w0 n0 = w1
    have HB1 : Hid (Below W.heap.size W w1) := Lib.hid (by rw [← hw1]; exact below_drewN HB0.out _)
    clear hw1
    refine (new_any w1 4 30 (by omega) (by omega) (by omega) (by omega)).mono ?_
    rintro e w2 ⟨nb, rfl, hnb, hd2, hb2⟩
    have HG2 : Hid (Oft 0 W w2 nb ⟨4, 30, 0, []⟩ 0 0) := Lib.hid ⟨hd2.iv0 (n := W.heap.size) (fun _ h => Nat.le_trans HB1.out.size h), HB1.out.trans (hb2.mono HB1.out.size), (fun m hm => by cases hm), rfl⟩
    clear hd2 hb2 hnb
    go_wp2_with fail
    go_loopw [5, 6, 7] (fun vi vo i wr => ∃ (k : Nat) (N : PNet) (I O : Int), k ≤ xs.length ∧ i = .int .i64 (k : Int) ∧ vi = .int .i64 I ∧ vo = .int .i64 O ∧ 0 ≤ I ∧ I ≤ (k : Int) * 1048576 ∧ 0 ≤ O ∧ O ≤ (k : Int) ∧ Hid (Oft k W wr nb N I O)) (fun _ _ i _ => xs.length - (intOf i).toNat)
    case atStart => exact ⟨0, _, 0, 0, by omega, rfl, rfl, rfl, by omega, by omega, by omega, by omega, HG2⟩
    case round =>
      obtain ⟨k, N, I, O, hk, rfl, rfl, rfl, hI0, hI1, hO0, hO1, HG⟩ := hrel
      obtain ⟨B, hB⟩ : ∃ B, B = wr := ⟨_, rfl⟩
      subst hB
      by_cases hlt : k < xs.length
      · obtain ⟨b, off, tv, bv, rfl, hb, hS, hA, e0, e1, e2, e3, e4, e5⟩ := (HR0.out.lift HG.out.below (Nat.le_refl _)).at_ (List.getElem?_eq_getElem hlt)
        have hx := HFit.out xs[k] (List.getElem_mem hlt)
        generalize xs[k] = x at *
        obtain ⟨⟨p1, c1, rfl, _, _, _⟩, p2, c2, rfl, _, _, _⟩ := hA.form
        have hpk := hx.pick
        have htl := hx.tos
        have HA := Lib.hid hA
        obtain ⟨o, ho⟩ : ∃ o, x.op = o := ⟨_, rfl⟩
        rw [ho] at e0
        clear hA hx ho
        by_cases q1 : o = 1
        · subst q1
          obtain ⟨X, hX⟩ : ∃ X, B.alloc (.cells #[.int .i64 1, .int .i64 x.src, .int .i64 x.dst, .int .i64 x.pick, .slice p1 x.tos.length c1, .slice p2 x.bytes.length c2] 36) = X := ⟨_, rfl⟩
          have hbX : Below B.heap.size B X := by rw [← hX]; exact (Below.refl _ _).alloc (Nat.le_refl _) _
          have hXb : X.heap[B.heap.size]? = some (.cells #[.int .i64 1, .int .i64 x.src, .int .i64 x.dst, .int .i64 x.pick, .slice p1 x.tos.length c1, .slice p2 x.bytes.length c2] 36 (0, 0)) := by rw [← hX]; exact heap_alloc_new B _
          have d0 := cell_of (i := 0) hXb rfl
          have d1 := cell_of (i := 1) hXb rfl
          have d2 := cell_of (i := 2) hXb rfl
          have d3 := cell_of (i := 3) hXb rfl
          have d4 := cell_of (i := 4) hXb rfl
          have hNX := HG.out.nt.after hbX
          have HbX := Lib.hid hbX
          have HXb := Lib.hid hXb
          have HXs := Lib.hid hbX.size
          obtain ⟨Y, hY⟩ : ∃ Y, X.alloc (.cells #[.int .u8 ((k : Int) % 256)] 5) = Y := ⟨_, rfl⟩
          have hbY : Below X.heap.size X Y := by rw [← hY]; exact (Below.refl _ _).alloc (Nat.le_refl _) _
          have hRd : Rd Y Y.heap.size (.slice (some ⟨X.heap.size, 0, none⟩) 1 1) [UInt8.ofNat k] := by
            have h1 := Rd.new X [UInt8.ofNat k] 5 #[.int .u8 ((k : Int) % 256)] (by rw [← byteOf k]; rfl) (by simp)
            rw [← hY]
            simpa using h1
          have y4 := cell_of (i := 4) ((hbY.block _ (block_lt hXb)).trans hXb) rfl
          have hTs : RdV Y (Iv W.heap.size B.heap.size) (.slice p1 x.tos.length c1) (x.tos.map (Value.int .i64)) := (HA.out.tos.step ((Fr.of_new hbX _).then (Fr.of_new hbY _)) (fun _ _ h => h.1))
          have HC := Lib.hid (send_any Y _ nb N (hNX.after hbY) x.src _ [UInt8.ofNat k] hRd (by simp) _ x.tos hTs)
          have hsl := sends_len x.src [UInt8.ofNat k] x.tos N
          have hsn := nsent_le x.src [UInt8.ofNat k] x.tos N
          have HOn : Hid (Ones (sends x.src [UInt8.ofNat k] N x.tos)) := Lib.hid (Ones.sends _ rfl _ _ HG.out.ones)
          have hdf := HG.out.diff
          have HDf : Hid (I + (nsent x.src [UInt8.ofNat k] N x.tos : Int) - O = ((sends x.src [UInt8.ofNat k] N x.tos).L.length : Int)) := Lib.hid (by rw [hsl]; omega)
          have HbY := Lib.hid (hbX.trans (hbY.mono hbX.size))
          clear hbX hXb hNX hbY hRd hTs hsl
          generalize nsent x.src [UInt8.ofNat k] N x.tos = C at *
          go_wp2_with fail
          refine HC.out.mono ?_
          rintro e w6 ⟨rfl, hd6, hf6⟩
          have HG9 : Hid (Oft (k + 1) W w6 nb (sends x.src [UInt8.ofNat k] N x.tos) (I + (C : Int)) O) := Lib.hid (HG.out.next HbY.out hd6 hf6 HOn.out HDf.out)
          have ew : IntKind.i64.wrap (I + (C : Int)) = I + (C : Int) := IntWalk.i64_in _ (by omega)
          have ed : IntKind.i64.wrap (I + (C : Int) - O) = ((sends x.src [UInt8.ofNat k] N x.tos).L.length : Int) := by rw [IntWalk.i64_in _ (by omega)]; exact HDf.out
          clear hd6 hf6 hdf
          generalize sends x.src [UInt8.ofNat k] N x.tos = N9 at *
          have HA9 := Lib.hid (all_any w6 _ nb _ HG9.out.nt)
          go_wp2_with fail
          refine HA9.out.mono ?_
          rintro e wz ⟨rfl, hbz⟩
          have HGz := Lib.hid (HG9.out.after hbz)
          clear hbz
          go_wp2_with fail
          go_roundw
          case rel => exact ⟨k + 1, _, I + (C : Int), O, by omega, by go_num, rfl, rfl, by omega, by omega, by omega, by omega, HGz⟩
          case measure => simp [intOf]; omega
        · by_cases q2 : o = 2
          · subst q2
            obtain ⟨X, hX⟩ : ∃ X, B.alloc (.cells #[.int .i64 2, .int .i64 x.src, .int .i64 x.dst, .int .i64 x.pick, .slice p1 x.tos.length c1, .slice p2 x.bytes.length c2] 36) = X := ⟨_, rfl⟩
            have hbX : Below B.heap.size B X := by rw [← hX]; exact (Below.refl _ _).alloc (Nat.le_refl _) _
            have hXb : X.heap[B.heap.size]? = some (.cells #[.int .i64 2, .int .i64 x.src, .int .i64 x.dst, .int .i64 x.pick, .slice p1 x.tos.length c1, .slice p2 x.bytes.length c2] 36 (0, 0)) := by rw [← hX]; exact heap_alloc_new B _
            have d0 := cell_of (i := 0) hXb rfl
            have d1 := cell_of (i := 1) hXb rfl
            have d2 := cell_of (i := 2) hXb rfl
            have d3 := cell_of (i := 3) hXb rfl
            have d4 := cell_of (i := 4) hXb rfl
            have hNX := HG.out.nt.after hbX
            have HbX := Lib.hid hbX
            have HXb := Lib.hid hXb
            have HXs := Lib.hid hbX.size
            have HC := Lib.hid (deliver_any X _ nb N hNX x.src x.dst x.pick hpk)
            have hdf := HG.out.diff
            rcases hh : has N x.src x.dst with _ | _
            · have g1 : dF N x.src x.dst = 0 := by simp [dF, hh]
              have g2 : dT N x.src x.dst = 0 := by simp [dT, hh]
              have g3 : dX N x.src x.dst x.pick = [] := by simp [dX, hh]
              rw [hh, take1_no hh, g1, g2, g3] at HC
              have hon := HG.out.ones
              have HOn := Lib.hid hon
              have HDf := Lib.hid hdf
              clear hbX hXb hNX hh g1 g2 g3 hon hdf
              go_wp2_with fail
              refine HC.out.mono ?_
              rintro e w6 ⟨v6, rfl, ho6, hd6, hf6⟩
              obtain ⟨u6, k6, rfl, _, _⟩ := ho6.shape
              have HG6 : Hid (Oft (k + 1) W w6 nb N I O) := Lib.hid (HG.out.next HbX.out (hd6.weak _) hf6 HOn.out HDf.out)
              obtain ⟨Z, hZ⟩ : ∃ Z, w6.alloc (.cells #[.int .i64 0, .int .i64 0, .slice u6 ([] : List UInt8).length k6] 41) = Z := ⟨_, rfl⟩
              have hZ2 : w6.alloc (.cells #[.int .i64 0, .int .i64 0, .slice u6 0 k6] 41) = Z := hZ
              have hbZ : Below w6.heap.size w6 Z := by rw [← hZ]; exact (Below.refl _ _).alloc (Nat.le_refl _) _
              have HG9 := Lib.hid (HG6.out.after hbZ)
              have ed : IntKind.i64.wrap (I - O) = (N.L.length : Int) := by rw [IntWalk.i64_in _ (by omega)]; exact HDf.out
              clear ho6 hd6 hf6 hbZ hZ
              have HA9 := Lib.hid (all_any Z _ nb _ HG9.out.nt)
              go_wp2_with fail
              refine HA9.out.mono ?_
              rintro e wz ⟨rfl, hbz⟩
              have HGz := Lib.hid (HG9.out.after hbz)
              clear hbz
              go_wp2_with fail
              go_roundw
              case rel => exact ⟨k + 1, _, I, O, by omega, by go_num, rfl, rfl, by omega, by omega, by omega, by omega, HGz⟩
              case measure => simp [intOf]; omega
            · have g1 : dF N x.src x.dst = x.src := by simp [dF, hh]
              have g2 : dT N x.src x.dst = x.dst := by simp [dT, hh]
              have g3 : dX N x.src x.dst x.pick = text N x.src x.dst x.pick := by simp [dX, hh]
              rw [hh, g1, g2, g3] at HC
              have hl1 := HG.out.ones.text hh x.pick
              obtain ⟨by1, hby1⟩ : ∃ y, text N x.src x.dst x.pick = [y] := by
                match hq : text N x.src x.dst x.pick, hl1 with
                | [y], _ => exact ⟨y, rfl⟩
              rw [hby1] at HC
              have htk := take1_len hh x.pick
              have HOn := Lib.hid (HG.out.ones.take1 x.src x.dst x.pick)
              have HDf : Hid (I - (O + 1) = ((take1 N x.src x.dst x.pick).L.length : Int)) := Lib.hid (by omega)
              have HLp : Hid (O + 1 ≤ (k : Int) + 1) := Lib.hid (by omega)
              clear hbX hXb hNX hh g1 g2 g3 hl1 hby1 htk hdf
              go_wp2_with fail
              refine HC.out.mono ?_
              rintro e w6 ⟨v6, rfl, ho6, hd6, hf6⟩
              have HG6 : Hid (Oft (k + 1) W w6 nb (take1 N x.src x.dst x.pick) I (O + 1)) := Lib.hid (HG.out.next HbX.out (hd6.weak _) hf6 HOn.out HDf.out)
              have hk6 := hf6.keep HXb.out (fun hs => by have := hs.2; omega)
              rcases ho6 with ⟨_, e9⟩ | ⟨g, cap, cur, fz, rfl, hgb, hg, hg1, hg2, _, _, hg5⟩
              · cases e9
              · have hcur := hg5 0 (by simp)
                have c0 : w6.cell? ⟨g, 0, none⟩ = some (.int .u8 (by1.toNat : Int)) := cell_of hg hcur
                obtain ⟨Z, hZ⟩ : ∃ Z, w6.alloc (.cells #[.int .i64 x.src, .int .i64 x.dst, .slice (some ⟨g, 0, none⟩) 1 cap] 41) = Z := ⟨_, rfl⟩
                have hbZ : Below w6.heap.size w6 Z := by rw [← hZ]; exact (Below.refl _ _).alloc (Nat.le_refl _) _
                have hZb : Z.heap[w6.heap.size]? = some (.cells #[.int .i64 x.src, .int .i64 x.dst, .slice (some ⟨g, 0, none⟩) 1 cap] 41 (0, 0)) := by rw [← hZ]; exact heap_alloc_new w6 _
                have m0 := cell_of (i := 0) hZb rfl
                have m1 := cell_of (i := 1) hZb rfl
                have m2 := cell_of (i := 2) hZb rfl
                have hkZ := (hbZ.block _ (block_lt hk6)).trans hk6
                have z1 := cell_of (i := 1) hkZ rfl
                have z2 := cell_of (i := 2) hkZ rfl
                have z0 : Z.cell? ⟨g, 0, none⟩ = some (.int .u8 (by1.toNat : Int)) := (below_cells hbZ g 0 (block_lt hg)).trans c0
                have r1 : (x.src != x.src) = false := by simp
                have r2 : (x.dst != x.dst) = false := by simp
                have hbt : by1.toNat < 256 := by1.toNat_lt
                have r3 : ¬ (255 : Int) < (by1.toNat : Int) := by omega
                have r4 : decide ((255 : Int) < (by1.toNat : Int)) = false := by simp; omega
                have r5 : decide (255 < by1.toNat) = false := by simp; omega
                have HG9 := Lib.hid (HG6.out.after hbZ)
                have ew : IntKind.i64.wrap (O + 1) = O + 1 := IntWalk.i64_in _ (by omega)
                have ed : IntKind.i64.wrap (I - (O + 1)) = ((take1 N x.src x.dst x.pick).L.length : Int) := by rw [IntWalk.i64_in _ (by omega)]; exact HDf.out
                have hg1' : 1 ≤ cap := by simpa using hg1
                clear hg5 hcur hg hbZ hZb hkZ hk6 hd6 hf6 hg1 c0
                generalize take1 N x.src x.dst x.pick = N9 at *
                have HA9 := Lib.hid (all_any Z _ nb _ HG9.out.nt)
                go_wp2_with fail
                refine HA9.out.mono ?_
                rintro e wz ⟨rfl, hbz⟩
                have HGz := Lib.hid (HG9.out.after hbz)
                clear hbz
                go_wp2_with fail
                go_roundw
                case rel => exact ⟨k + 1, _, I, O + 1, by omega, by go_num, rfl, rfl, by omega, by omega, by omega, by omega, HGz⟩
                case measure => simp [intOf]; omega
          · by_cases q3 : o = 3
            · subst q3
              obtain ⟨X, hX⟩ : ∃ X, B.alloc (.cells #[.int .i64 3, .int .i64 x.src, .int .i64 x.dst, .int .i64 x.pick, .slice p1 x.tos.length c1, .slice p2 x.bytes.length c2] 36) = X := ⟨_, rfl⟩
              have hbX : Below B.heap.size B X := by rw [← hX]; exact (Below.refl _ _).alloc (Nat.le_refl _) _
              have hXb : X.heap[B.heap.size]? = some (.cells #[.int .i64 3, .int .i64 x.src, .int .i64 x.dst, .int .i64 x.pick, .slice p1 x.tos.length c1, .slice p2 x.bytes.length c2] 36 (0, 0)) := by rw [← hX]; exact heap_alloc_new B _
              have d0 := cell_of (i := 0) hXb rfl
              have d1 := cell_of (i := 1) hXb rfl
              have d2 := cell_of (i := 2) hXb rfl
              have d3 := cell_of (i := 3) hXb rfl
              have d4 := cell_of (i := 4) hXb rfl
              have hNX := HG.out.nt.after hbX
              have HbX := Lib.hid hbX
              have HXb := Lib.hid hXb
              have HXs := Lib.hid hbX.size
              have HC := Lib.hid (drop_any X _ nb N hNX x.src x.dst x.pick hpk)
              have hdf := HG.out.diff
              have HOn := Lib.hid (HG.out.ones.take1 x.src x.dst x.pick)
              rcases hh : has N x.src x.dst with _ | _
              · rw [hh] at HC
                have HDf : Hid (I - O = ((take1 N x.src x.dst x.pick).L.length : Int)) := Lib.hid (by rw [take1_no hh]; exact hdf)
                clear hbX hXb hNX hh hdf
                go_wp2_with fail
                refine HC.out.mono ?_
                rintro e w6 ⟨rfl, hd6, hf6⟩
                have HG9 : Hid (Oft (k + 1) W w6 nb (take1 N x.src x.dst x.pick) I O) := Lib.hid (HG.out.next HbX.out (hd6.weak _) hf6 HOn.out HDf.out)
                have ed : IntKind.i64.wrap (I - O) = ((take1 N x.src x.dst x.pick).L.length : Int) := by rw [IntWalk.i64_in _ (by omega)]; exact HDf.out
                clear hd6 hf6
                generalize take1 N x.src x.dst x.pick = N9 at *
                have HA9 := Lib.hid (all_any w6 _ nb _ HG9.out.nt)
                go_wp2_with fail
                refine HA9.out.mono ?_
                rintro e wz ⟨rfl, hbz⟩
                have HGz := Lib.hid (HG9.out.after hbz)
                clear hbz
                go_wp2_with fail
                go_roundw
                case rel => exact ⟨k + 1, _, I, O, by omega, by go_num, rfl, rfl, by omega, by omega, by omega, by omega, HGz⟩
                case measure => simp [intOf]; omega
              · rw [hh] at HC
                have htk := take1_len hh x.pick
                have HDf : Hid (I - (O + 1) = ((take1 N x.src x.dst x.pick).L.length : Int)) := Lib.hid (by omega)
                clear hbX hXb hNX hh htk hdf
                go_wp2_with fail
                refine HC.out.mono ?_
                rintro e w6 ⟨rfl, hd6, hf6⟩
                have HG9 : Hid (Oft (k + 1) W w6 nb (take1 N x.src x.dst x.pick) I (O + 1)) := Lib.hid (HG.out.next HbX.out (hd6.weak _) hf6 HOn.out HDf.out)
                have ew : IntKind.i64.wrap (O + 1) = O + 1 := IntWalk.i64_in _ (by omega)
                have ed : IntKind.i64.wrap (I - (O + 1)) = ((take1 N x.src x.dst x.pick).L.length : Int) := by rw [IntWalk.i64_in _ (by omega)]; exact HDf.out
                clear hd6 hf6
                generalize take1 N x.src x.dst x.pick = N9 at *
                have HA9 := Lib.hid (all_any w6 _ nb _ HG9.out.nt)
                go_wp2_with fail
                refine HA9.out.mono ?_
                rintro e wz ⟨rfl, hbz⟩
                have HGz := Lib.hid (HG9.out.after hbz)
                clear hbz
                go_wp2_with fail
                go_roundw
                case rel => exact ⟨k + 1, _, I, O + 1, by omega, by go_num, rfl, rfl, by omega, by omega, by omega, by omega, HGz⟩
                case measure => simp [intOf]; omega
            · by_cases q4 : o = 4
              · subst q4
                obtain ⟨X, hX⟩ : ∃ X, B.alloc (.cells #[.int .i64 4, .int .i64 x.src, .int .i64 x.dst, .int .i64 x.pick, .slice p1 x.tos.length c1, .slice p2 x.bytes.length c2] 36) = X := ⟨_, rfl⟩
                have hbX : Below B.heap.size B X := by rw [← hX]; exact (Below.refl _ _).alloc (Nat.le_refl _) _
                have hXb : X.heap[B.heap.size]? = some (.cells #[.int .i64 4, .int .i64 x.src, .int .i64 x.dst, .int .i64 x.pick, .slice p1 x.tos.length c1, .slice p2 x.bytes.length c2] 36 (0, 0)) := by rw [← hX]; exact heap_alloc_new B _
                have d0 := cell_of (i := 0) hXb rfl
                have d1 := cell_of (i := 1) hXb rfl
                have d2 := cell_of (i := 2) hXb rfl
                have d3 := cell_of (i := 3) hXb rfl
                have d4 := cell_of (i := 4) hXb rfl
                have hNX := HG.out.nt.after hbX
                have HbX := Lib.hid hbX
                have HXb := Lib.hid hXb
                have HXs := Lib.hid hbX.size
                have HC := Lib.hid (double_any X _ nb N hNX x.src x.dst x.pick hpk)
                have hdf := HG.out.diff
                have HOn := Lib.hid (HG.out.ones.dbl x.src x.dst x.pick)
                have hdl := dbl_len N x.src x.dst x.pick
                rcases hh : dbld N x.src x.dst with _ | _
                · rw [hh] at HC hdl
                  have HDf : Hid (I - O = ((dbl N x.src x.dst x.pick).L.length : Int)) := Lib.hid (by rw [hdl]; simpa using hdf)
                  clear hbX hXb hNX hh hdl hdf
                  go_wp2_with fail
                  refine HC.out.mono ?_
                  rintro e w6 ⟨rfl, hd6, hf6⟩
                  have HG9 : Hid (Oft (k + 1) W w6 nb (dbl N x.src x.dst x.pick) I O) := Lib.hid (HG.out.next HbX.out hd6 hf6 HOn.out HDf.out)
                  have ed : IntKind.i64.wrap (I - O) = ((dbl N x.src x.dst x.pick).L.length : Int) := by rw [IntWalk.i64_in _ (by omega)]; exact HDf.out
                  clear hd6 hf6
                  generalize dbl N x.src x.dst x.pick = N9 at *
                  have HA9 := Lib.hid (all_any w6 _ nb _ HG9.out.nt)
                  go_wp2_with fail
                  refine HA9.out.mono ?_
                  rintro e wz ⟨rfl, hbz⟩
                  have HGz := Lib.hid (HG9.out.after hbz)
                  clear hbz
                  go_wp2_with fail
                  go_roundw
                  case rel => exact ⟨k + 1, _, I, O, by omega, by go_num, rfl, rfl, by omega, by omega, by omega, by omega, HGz⟩
                  case measure => simp [intOf]; omega
                · rw [hh] at HC hdl
                  have HDf : Hid (I + 1 - O = ((dbl N x.src x.dst x.pick).L.length : Int)) := Lib.hid (by rw [hdl]; simp; omega)
                  clear hbX hXb hNX hh hdl hdf
                  go_wp2_with fail
                  refine HC.out.mono ?_
                  rintro e w6 ⟨rfl, hd6, hf6⟩
                  have HG9 : Hid (Oft (k + 1) W w6 nb (dbl N x.src x.dst x.pick) (I + 1) O) := Lib.hid (HG.out.next HbX.out hd6 hf6 HOn.out HDf.out)
                  have ew : IntKind.i64.wrap (I + 1) = I + 1 := IntWalk.i64_in _ (by omega)
                  have ed : IntKind.i64.wrap (I + 1 - O) = ((dbl N x.src x.dst x.pick).L.length : Int) := by rw [IntWalk.i64_in _ (by omega)]; exact HDf.out
                  clear hd6 hf6
                  generalize dbl N x.src x.dst x.pick = N9 at *
                  have HA9 := Lib.hid (all_any w6 _ nb _ HG9.out.nt)
                  go_wp2_with fail
                  refine HA9.out.mono ?_
                  rintro e wz ⟨rfl, hbz⟩
                  have HGz := Lib.hid (HG9.out.after hbz)
                  clear hbz
                  go_wp2_with fail
                  go_roundw
                  case rel => exact ⟨k + 1, _, I + 1, O, by omega, by go_num, rfl, rfl, by omega, by omega, by omega, by omega, HGz⟩
                  case measure => simp [intOf]; omega
              · have s1 : (o == 1) = false := by simpa using q1
                have s2 : (o == 2) = false := by simpa using q2
                have s3 : (o == 3) = false := by simpa using q3
                have s4 : (o == 4) = false := by simpa using q4
                obtain ⟨X, hX⟩ : ∃ X, B.alloc (.cells #[.int .i64 o, .int .i64 x.src, .int .i64 x.dst, .int .i64 x.pick, .slice p1 x.tos.length c1, .slice p2 x.bytes.length c2] 36) = X := ⟨_, rfl⟩
                have hbX : Below B.heap.size B X := by rw [← hX]; exact (Below.refl _ _).alloc (Nat.le_refl _) _
                have hXb : X.heap[B.heap.size]? = some (.cells #[.int .i64 o, .int .i64 x.src, .int .i64 x.dst, .int .i64 x.pick, .slice p1 x.tos.length c1, .slice p2 x.bytes.length c2] 36 (0, 0)) := by rw [← hX]; exact heap_alloc_new B _
                have d0 := cell_of (i := 0) hXb rfl
                have d1 := cell_of (i := 1) hXb rfl
                have d2 := cell_of (i := 2) hXb rfl
                have d3 := cell_of (i := 3) hXb rfl
                have d4 := cell_of (i := 4) hXb rfl
                have hNX := HG.out.nt.after hbX
                have HbX := Lib.hid hbX
                have HXb := Lib.hid hXb
                have HXs := Lib.hid hbX.size
                have hdf := HG.out.diff
                have HG9 : Hid (Oft (k + 1) W X nb N I O) := Lib.hid (HG.out.next hbX (hNX.weak _) (Fr.refl _ _) HG.out.ones hdf)
                have ed : IntKind.i64.wrap (I - O) = (N.L.length : Int) := by rw [IntWalk.i64_in _ (by omega)]; exact hdf
                clear hbX hXb hNX hdf q1 q2 q3 q4 d1 d2 d3 d4
                have HA9 := Lib.hid (all_any X _ nb _ HG9.out.nt)
                go_wp2_with fail
                refine HA9.out.mono ?_
                rintro e wz ⟨rfl, hbz⟩
                have HGz := Lib.hid (HG9.out.after hbz)
                clear hbz
                go_wp2_with fail
                go_roundw
                case rel => exact ⟨k + 1, _, I, O, by omega, by go_num, rfl, rfl, by omega, by omega, by omega, by omega, HGz⟩
                case measure => simp [intOf]; omega
      · go_wp2_with fail
        go_ret
        exact ⟨rfl, HG.out.below⟩
end Go.Proofs.Ytiffoafjgcjgoaa
