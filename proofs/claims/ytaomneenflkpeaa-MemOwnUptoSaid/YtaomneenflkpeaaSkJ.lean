/-
  The walk over insert.
-/
import Derived.Test.YtaomneenflkpeaaSkI
namespace Go.Proofs.Ytaomneenflkpeaa
open Go.RowKit

/-- Blocks of the list, and new ones; but not the two that the call has boxed first. -/
def InS (S : Nat → Prop) (n m : Nat) : Nat → Prop := fun k => (S k ∧ k < n) ∨ n + m ≤ k

set_option maxRecDepth 100000 in
set_option maxHeartbeats 4000000 in
theorem sk_insert (w : World) (S : Nat → Prop) (mb : Nat) (T : PTb) (sz : Nat) (dv hv : Value) (hh : Nat) (ns : List Nd) (bk : Option Nat) (h : SkAt w S mb T sz dv hv hh ns bk) (x : Ent) (hx : FitE x) (ho : oneE x = true) (hfd : foundE x T.L = false) (n : Nat) (hn : (n : Int) = tow T) (hl : ns.length ≤ 1048576) :
    Calls Try.prog 47 #[.pointer (some ⟨mb, 2, none⟩), pathV mb ns (plcE x T.L), verV x, .int .i64 (n : Int)] w fun r w' => r = .returned (.tuple #[]) ∧
      (∃ hv' bk' nd, SkAt w' (More S w.heap.size) mb (putT T x) sz dv hv' (max hh n) (insN ns (plcE x T.L) nd) bk' ∧ nd.num = ns.length ∧ (bk = none ∨ bk' = bk)) ∧ Fr S w w' := by
  obtain ⟨P, hP⟩ : ∃ P, plcE x T.L = P := ⟨_, rfl⟩
  have hPl : P ≤ ns.length := by rw [← h.len, ← hP]; exact plcE_le x T.L
  have hn12 := tow_le T
  rw [hP]
  obtain ⟨A, hAd⟩ : ∃ A : Nat → Addr, ∀ l, ptL mb ns P l = .pointer (some (A l)) := ⟨_, fun l => rfl⟩
  have hA : pathV mb ns P = .agg #[.pointer (some (A 0)), .pointer (some (A 1)), .pointer (some (A 2)), .pointer (some (A 3)), .pointer (some (A 4)), .pointer (some (A 5)), .pointer (some (A 6)), .pointer (some (A 7)), .pointer (some (A 8)), .pointer (some (A 9)), .pointer (some (A 10)), .pointer (some (A 11))] := by
    unfold pathV
    simp only [hAd]
  rw [hA]
  obtain ⟨X, hX⟩ : ∃ X, (w.alloc (.cells #[.pointer (some (A 0)), .pointer (some (A 1)), .pointer (some (A 2)), .pointer (some (A 3)), .pointer (some (A 4)), .pointer (some (A 5)), .pointer (some (A 6)), .pointer (some (A 7)), .pointer (some (A 8)), .pointer (some (A 9)), .pointer (some (A 10)), .pointer (some (A 11))] 90)).alloc (.cells #[.string ⟨x.key.toArray⟩, .int .u64 (x.seq : Int), .bool x.gone, .string ⟨x.val.toArray⟩] 59) = X := ⟨_, rfl⟩
  have hb : Below w.heap.size w X := by rw [← hX]; exact ((Below.refl _ _).alloc (Nat.le_refl _) _).alloc (by simp) _
  have hXs : X.heap.size = w.heap.size + 2 := by rw [← hX]; simp
  have hx0 : X.heap[w.heap.size]? = some (.cells (arr12 fun l => .pointer (some (A l))) 90 (0, 0)) := by
    rw [← hX]
    exact (alloc_old (by simp) _).trans (heap_alloc_new w _)
  have hx1 : X.heap[w.heap.size + 1]? = some (.cells #[.string ⟨x.key.toArray⟩, .int .u64 (x.seq : Int), .bool x.gone, .string ⟨x.val.toArray⟩] 59 (0, 0)) := by
    rw [← hX]
    exact heap_alloc2_new w _ _
  have hS : SkAt X (InS S w.heap.size 2) mb T sz dv hv hh ns bk := h.step (Fr.of_new hb (fun _ => False)) (fun _ _ _ hf => hf) (fun k hk hs => .inl ⟨hs, hk⟩)
  have c9 := hS.c9
  unfold pv at c9
  obtain ⟨q9, hq9⟩ : ∃ q9, bk.map (fun b : Nat => (⟨b, 0, none⟩ : Addr)) = q9 := ⟨_, rfl⟩
  rw [hq9] at c9
  have HQ9 := Lib.hid hq9
  clear hq9
  have z9 := hS.fz 9
  have HS := Lib.hid hS
  have HX0 := Lib.hid hx0
  have HX1 := Lib.hid hx1
  have HXs := Lib.hid hXs
  have HB := Lib.hid hb
  have HAd := Lib.hid hAd
  have HXp := Lib.hid hx
  have HOp := Lib.hid ho
  have HFd := Lib.hid hfd
  have HN := Lib.hid hn
  have HN12 := Lib.hid hn12
  have HP := Lib.hid hP
  have HMl : Hid (mb < w.heap.size) := Lib.hid h.lt
  have HL := Lib.hid hl
  clear hS hx0 hx1 hXs hb hA hAd hx ho hfd hn hn12 hP h
  unfold verV
  go_enter Try.func47, Try.ntmps47
  go_upto_if 14 with (fail)
  go_cut [] (fun wx => Hid (∃ b, SkAt wx (InS S w.heap.size 2) mb T sz dv hv hh ns (some b) ∧ Fr (InS S w.heap.size 2) X wx ∧ (bk = none ∨ some b = bk)))
  case first =>
    cases bk with
    | some b0 =>
      have HR : Hid (∃ b, SkAt X (InS S w.heap.size 2) mb T sz dv hv hh ns (some b) ∧ Fr (InS S w.heap.size 2) X X ∧ (some b0 = none ∨ some b = some b0)) := Lib.hid ⟨b0, HS.out, Fr.refl _ _, .inr rfl⟩
      have hq := HQ9.out
      simp only [Option.map_some] at hq
      subst hq
      go_wp2_with fail
      go_meet
      exact HR
    | none =>
      have hq := HQ9.out
      simp only [Option.map_none] at hq
      subst hq
      obtain ⟨Y, hY⟩ : ∃ Y, X.alloc (.cells #[.int .i64 0, .string ⟨#[]⟩, .int .u64 0, .bool false, .string ⟨#[]⟩, .pointer none] 113) = Y := ⟨_, rfl⟩
      have hbY : Below X.heap.size X Y := by rw [← hY]; exact (Below.refl _ _).alloc (Nat.le_refl _) _
      have hSY := HS.out.after hbY
      have y9 := hSY.c9
      have zy9 := hSY.fz 9
      have HR : Hid (∃ b, SkAt (Y.setCell ⟨mb, 9, none⟩ (.pointer (some ⟨X.heap.size, 0, none⟩))) (InS S w.heap.size 2) mb T sz dv hv hh ns (some b) ∧ Fr (InS S w.heap.size 2) X (Y.setCell ⟨mb, 9, none⟩ (.pointer (some ⟨X.heap.size, 0, none⟩))) ∧ ((none : Option Nat) = none ∨ some b = none)) := Lib.hid (by
        have hf : Fr (fun k => k = mb) Y (Y.setCell ⟨mb, 9, none⟩ (.pointer (some ⟨X.heap.size, 0, none⟩))) := Fr.setCell (fun k => k = mb) Y (p := ⟨mb, 9, none⟩) rfl _
        refine ⟨X.heap.size, hSY.turn hf ?_ (fun e => by cases e) (fun b e => ?_), (Fr.of_new hbY _).then (hf.mono fun k _ e => by rw [e]; exact HS.out.inS), .inl rfl⟩
        · have := setCell_same (off := 9) hSY.blk (.pointer (some ⟨X.heap.size, 0, none⟩))
          simpa [tbC, pv] using this
        · obtain rfl := Option.some.inj e
          refine ⟨.inr (by have := HXs.out; omega), ?_⟩
          unfold ChB
          rw [hf.block X.heap.size (by rw [← hY]; simp) (by have := HMl.out; have := HXs.out; omega), ← hY]
          exact heap_alloc_new X _)
      unfold pv at y9
      simp only [Option.map_none] at y9
      clear hbY hSY
      go_wp2_with fail
      go_meet
      exact HR
  case rest =>
    obtain ⟨wa, rfl⟩ : ∃ wa : World, wa = wc := ⟨_, rfl⟩
    obtain ⟨b, hSa, hfa, hbk⟩ := hcut.out
    have HSa := Lib.hid hSa
    have HFa := Lib.hid hfa
    have HBk := Lib.hid hbk
    clear hcut hSa hfa hbk c9 z9 HS
    go_upto_block 0 with (fail)
    go_cut [] (fun wx => Hid (∃ hv', SkAt wx (InS S w.heap.size 2) mb T sz dv hv' (max hh n) ns (some b) ∧ Fr (InS S w.heap.size 2) X wx))
    case first =>
      go_wp2_with fail
      go_loopg [] (max hh n - hh) (fun g wr => ∃ hv' hh', SkAt wr (InS S w.heap.size 2) mb T sz dv hv' hh' ns (some b) ∧ Fr (InS S w.heap.size 2) X wr ∧ hh' + g = max hh n ∧ hh ≤ hh')
      case atStart => exact ⟨hv, hh, HSa.out, HFa.out, by omega, Nat.le_refl _⟩
      case round =>
        obtain ⟨hv', hh', hs, hf, hg1, hg2⟩ := hrel
        have HSr := Lib.hid hs
        have HFr := Lib.hid hf
        obtain ⟨p7, cap7, rfl, h71, h72⟩ := row_shape hs.lk.hrow
        have c7 := hs.c7
        have HH := Lib.hid (sk_height wr mb hh' cap7 p7 c7)
        have HLt := Lib.hid hs.lt
        clear hs hf
        by_cases hlt : hh' < n
        · have q1 : decide ((hh' : Int) < (n : Int)) = true := decide_eq_true (by omega)
          have q1n : decide (hh' < n) = true := decide_eq_true hlt
          obtain ⟨Y, hY⟩ : ∃ Y, wr.alloc (.cells #[.pointer none] 73) = Y := ⟨_, rfl⟩
          have hbY : Below wr.heap.size wr Y := by rw [← hY]; exact (Below.refl _ _).alloc (Nat.le_refl _) _
          have hCl : Cl Y (fun _ => True) (.slice (some ⟨wr.heap.size, 0, none⟩) 1 1) 1 [.pointer none] := by
            rw [← hY]
            exact Cl.new wr _ 1 _ _ _ rfl (by omega) trivial
          have hSY := HSr.out.after hbY
          have HSY := Lib.hid hSY
          have HCl := Lib.hid hCl
          have HbY := Lib.hid hbY
          have HBound : Hid (hh' + 1 ≤ 12) := Lib.hid (by have := HN12.out; have := HN.out; omega)
          have HNS : Hid (InS S w.heap.size 2 Y.heap.size) := Lib.hid (.inr (by have := hbY.size; have := HFr.out.size; have := HXs.out; omega))
          have HLen : Hid (hh' + 1 ≤ 68719476736) := Lib.hid (by have := HBound.out; omega)
          have HG := Lib.hid (And.intro hlt (And.intro hg1 hg2))
          clear hbY hCl hSY hg1 hg2 hlt
          go_wp2_with (first
            | (go_at_call 60; refine HH.out.mono ?_; rintro r wh ⟨rfl, hwh⟩; replace hwh := hwh.symm; subst hwh)
            | (at_builtin
               refine slNd.wpList_append rfl (.tmp 29) (.tmp 30) rfl 0 (v := .slice p7 hh' cap7) (u := .slice (some ⟨wr.heap.size, 0, none⟩) 1 1) rfl rfl HSY.out.lk.hrow HCl.out rfl (by simp [Value.oneCell']) HLen.out (Nat.zero_le _) ?_
               intro v' w1 ho hg ha
               obtain ⟨p8, cap8, rfl, h81, h82⟩ := row_shape ho
               have hgr := HSY.out.grown (S' := InS S w.heap.size 2) ho hg ha HBound.out (fun _ hk => hk) HNS.out
               have hmb := (hg.block mb HSY.out.lt (fun e => by
                 obtain ⟨cur, hc⟩ := row_heap HSY.out.lk.hrow e.symm
                 exact kind_ne HSY.out.blk hc (by decide) rfl)).trans HSY.out.blk
               have m7 := cell_of (i := 7) hmb rfl
               have z7 := frozen_of (i := 7) hmb
               have HGr := Lib.hid hgr
               clear ho hg ha hgr hmb))
          go_roundg (gk - 1)
          case measure => have := HG.out; omega
          case rel =>
            have := HG.out
            exact ⟨_, _, HGr.out.1, (HFr.out.then (Fr.of_new HbY.out _)).then HGr.out.2, by omega, by omega⟩
        · have q1 : decide ((hh' : Int) < (n : Int)) = false := decide_eq_false (by omega)
          have q1n : decide (hh' < n) = false := decide_eq_false hlt
          have HR : Hid (∃ hv', SkAt wr (InS S w.heap.size 2) mb T sz dv hv' (max hh n) ns (some b) ∧ Fr (InS S w.heap.size 2) X wr) := Lib.hid (by
            have e : hh' = max hh n := by omega
            rw [← e]
            exact ⟨_, HSr.out, HFr.out⟩)
          clear hlt hg1 hg2
          go_wp2_with (go_at_call 60; refine HH.out.mono ?_; rintro r wh ⟨rfl, hwh⟩; replace hwh := hwh.symm; subst hwh)
          go_meet
          exact HR
    case rest =>
      obtain ⟨wb, rfl⟩ : ∃ wb : World, wb = wc := ⟨_, rfl⟩
      obtain ⟨hv2, hSb, hfb⟩ := hcut.out
      have k8 := hSb.c8
      have hkb1 := hfb.keep HX1.out (fun hk => by rcases hk with ⟨_, hk⟩ | hk <;> omega)
      have hkb0 := hfb.keep HX0.out (fun hk => by rcases hk with ⟨_, hk⟩ | hk <;> omega)
      have k0 : wb.cell? ⟨w.heap.size + 1, 0, none⟩ = some (.string ⟨x.key.toArray⟩) := cell_of hkb1 rfl
      have k1 : wb.cell? ⟨w.heap.size + 1, 1, none⟩ = some (.int .u64 (x.seq : Int)) := cell_of hkb1 rfl
      have k2 : wb.cell? ⟨w.heap.size + 1, 2, none⟩ = some (.bool x.gone) := cell_of hkb1 rfl
      have k3 : wb.cell? ⟨w.heap.size + 1, 3, none⟩ = some (.string ⟨x.val.toArray⟩) := cell_of hkb1 rfl
      obtain ⟨Y, hY⟩ : ∃ Y, wb.alloc (.cells (Array.replicate n (.pointer none)) 73) = Y := ⟨_, rfl⟩
      obtain ⟨Z, hZ⟩ : ∃ Z, Y.alloc (.cells #[.string ⟨x.key.toArray⟩, .int .u64 (x.seq : Int), .bool x.gone, .string ⟨x.val.toArray⟩, .int .i64 (ns.length : Int), .slice (some ⟨wb.heap.size, 0, none⟩) n n] 62) = Z := ⟨_, rfl⟩
      have hbY : Below wb.heap.size wb Y := by rw [← hY]; exact (Below.refl _ _).alloc (Nat.le_refl _) _
      have hbZ : Below wb.heap.size wb Z := by rw [← hZ]; exact hbY.alloc hbY.size _
      have m0 : Y.cell? ⟨w.heap.size + 1, 0, none⟩ = some (.string ⟨x.key.toArray⟩) := (hbY.cell (p := ⟨w.heap.size + 1, 0, none⟩) (cell_lt k0)).trans k0
      have m1 : Y.cell? ⟨w.heap.size + 1, 1, none⟩ = some (.int .u64 (x.seq : Int)) := (hbY.cell (p := ⟨w.heap.size + 1, 1, none⟩) (cell_lt k1)).trans k1
      have m2 : Y.cell? ⟨w.heap.size + 1, 2, none⟩ = some (.bool x.gone) := (hbY.cell (p := ⟨w.heap.size + 1, 2, none⟩) (cell_lt k2)).trans k2
      have m3 : Y.cell? ⟨w.heap.size + 1, 3, none⟩ = some (.string ⟨x.val.toArray⟩) := (hbY.cell (p := ⟨w.heap.size + 1, 3, none⟩) (cell_lt k3)).trans k3
      have m8 : Y.cell? ⟨mb, 8, none⟩ = some (.int .i64 (ns.length : Int)) := (hbY.cell (p := ⟨mb, 8, none⟩) (cell_lt k8)).trans k8
      have g0 : Z.cell? ⟨w.heap.size + 1, 0, none⟩ = some (.string ⟨x.key.toArray⟩) := (hbZ.cell (p := ⟨w.heap.size + 1, 0, none⟩) (cell_lt k0)).trans k0
      have g1 : Z.cell? ⟨w.heap.size + 1, 1, none⟩ = some (.int .u64 (x.seq : Int)) := (hbZ.cell (p := ⟨w.heap.size + 1, 1, none⟩) (cell_lt k1)).trans k1
      have g2 : Z.cell? ⟨w.heap.size + 1, 2, none⟩ = some (.bool x.gone) := (hbZ.cell (p := ⟨w.heap.size + 1, 2, none⟩) (cell_lt k2)).trans k2
      have g3 : Z.cell? ⟨w.heap.size + 1, 3, none⟩ = some (.string ⟨x.val.toArray⟩) := (hbZ.cell (p := ⟨w.heap.size + 1, 3, none⟩) (cell_lt k3)).trans k3
      have g8 : Z.cell? ⟨mb, 8, none⟩ = some (.int .i64 (ns.length : Int)) := (hbZ.cell (p := ⟨mb, 8, none⟩) (cell_lt k8)).trans k8
      have hYs : Y.heap.size = wb.heap.size + 1 := by rw [← hY]; simp
      have hZs : Z.heap.size = wb.heap.size + 2 := by rw [← hZ]; simp [hYs]
      have hZt : Z.heap[wb.heap.size]? = some (.cells (tows n fun _ => none).toArray 73 (0, 0)) := by
        rw [← hZ, alloc_old (by omega), ← hY]
        have : (tows n fun _ => none).toArray = Array.replicate n (.pointer none) := by
          apply Array.ext'
          unfold tows pv
          simp [List.map_const']
        rw [this]
        exact heap_alloc_new wb _
      have hZn : Z.heap[Y.heap.size]? = some (.cells #[.string ⟨x.key.toArray⟩, .int .u64 (x.seq : Int), .bool x.gone, .string ⟨x.val.toArray⟩, .int .i64 (ns.length : Int), .slice (some ⟨wb.heap.size, 0, none⟩) n n] 62 (0, 0)) := by
        rw [← hZ]
        exact heap_alloc_new Y _
      have hSZ := hSb.after hbZ
      have HSZ := Lib.hid hSZ
      have HfZ : Hid (Fr (InS S w.heap.size 2) X Z) := Lib.hid (hfb.then (Fr.of_new hbZ _))
      have HZ0 := Lib.hid ((hbZ.block _ (block_lt hkb0)).trans hkb0)
      have HZt := Lib.hid hZt
      have HZn := Lib.hid hZn
      have HWb : Hid (w.heap.size + 2 ≤ wb.heap.size) := Lib.hid (by have := hfb.size; have := HXs.out; omega)
      have HYs := Lib.hid hYs
      have HZs := Lib.hid hZs
      have HbZ := Lib.hid hbZ
      have HSb := Lib.hid hSb
      clear hcut hSb hfb hkb1 hkb0 hYs hZs hZt hZn hSZ HSa HFa hbZ hbY
      have hmk := mk_tow n (by have := HN12.out; have := HN.out; omega) wb.drew
      go_wp2_with fail
      go_region_held3 (fun w' => w'.cell? ⟨w.heap.size + 1, 0, none⟩ = some (.string ⟨x.key.toArray⟩) ∧ w'.cell? ⟨w.heap.size + 1, 1, none⟩ = some (.int .u64 (x.seq : Int)) ∧ w'.cell? ⟨w.heap.size + 1, 2, none⟩ = some (.bool x.gone) ∧ w'.cell? ⟨w.heap.size + 1, 3, none⟩ = some (.string ⟨x.val.toArray⟩) ∧ w'.cell? ⟨mb, 8, none⟩ = some (.int .i64 (ns.length : Int)))
        (first
          | exact ⟨k0, k1, k2, k3, k8⟩
          | exact ⟨m0, m1, m2, m3, m8⟩
          | exact ⟨g0, g1, g2, g3, g8⟩)
        (fail)
      have hmx : n ≤ max hh n := Nat.le_max_right _ _
      have h12m : max hh n ≤ 12 := by have h1 := HSb.out.h12; exact h1
      obtain ⟨tb, htb⟩ : ∃ tb, wb.heap.size = tb := ⟨_, rfl⟩
      obtain ⟨nb, hnb⟩ : ∃ nb, Y.heap.size = nb := ⟨_, rfl⟩
      have hY1 := HYs.out
      have hW1 := HWb.out
      have HTn : Hid (∀ (i : Nat) (a : Nd), ns[i]? = some a → a.blk ≠ nb) := Lib.hid (fun i a hi e => by
        have := block_lt (HSb.out.lk.nb i a hi).2
        omega)
      have HTt : Hid (∀ (i : Nat) (a : Nd), ns[i]? = some a → a.tow ≠ tb) := Lib.hid (fun i a hi e => by
        have := block_lt (HSb.out.lk.tb i a hi).2
        omega)
      have HTh : Hid (hv2.ownBlock ≠ some tb) := Lib.hid (fun e => by
        obtain ⟨cur, hc⟩ := row_heap HSb.out.lk.hrow e
        have := block_lt hc
        omega)
      have HSt : Hid (InS S w.heap.size 2 tb) := Lib.hid (.inr (by omega))
      have HSn : Hid (InS S w.heap.size 2 nb) := Lib.hid (.inr (by omega))
      rw [htb] at HZt HZn HbZ
      rw [hnb] at HZn
      have n5 : Z.cell? ⟨nb, 5, none⟩ = some (.slice (some ⟨tb, 0, none⟩) n n) := cell_of HZn.out rfl
      have HNb : Hid (Z.heap[nb]? = some (.cells (ndC ⟨x, ns.length, n, nb, tb⟩) 62 (0, 0))) := Lib.hid HZn.out
      have HMx := Lib.hid (And.intro hmx h12m)
      have HPl := Lib.hid hPl
      have HLk0 : Hid (Lk Z (InS S w.heap.size 2) hv2 (max hh n) ns (nxI ns P nb 0)) := Lib.hid (HSZ.out.lk.congr (fun l hl => by unfold nxI; rw [if_neg (fun h => by omega)]) (fun i nd l hi hl => by unfold nxI; rw [if_neg (fun h => by omega)]))
      have HTw0 : Hid (Z.heap[tb]? = some (.cells (tows n (twI ns P 0)).toArray 73 (0, 0))) := Lib.hid (by
        rw [HZt.out]
        rw [tows_congr fun l hl => (by unfold twI; rw [if_neg (by omega)] : (none : Option Nat) = twI ns P 0 l)])
      subst htb hnb
      clear hY1 hW1 hmx h12m m0 m1 m2 m3 m8 g0 g1 g2 g3 g8 k0 k1 k2 k3 k8 hmk HZn HZt hY hZ
      go_wp2_with fail
      go_loopg [49] n (fun g i wr => ∃ m : Nat, m + g = n ∧ i = .int .i64 (m : Int) ∧ Lk wr (InS S w.heap.size 2) hv2 (max hh n) ns (nxI ns P Y.heap.size m) ∧ OnlyT Z wr ∧ wr.heap[wb.heap.size]? = some (.cells (tows n (twI ns P m)).toArray 73 (0, 0)) ∧ Fr (InS S w.heap.size 2) X wr)
      case atStart => exact ⟨0, by omega, rfl, HLk0.out.after (below_drew (Below.refl _ _)), (OnlyT.refl _).drew, HTw0.out, HfZ.out.drew⟩
      case round =>
        obtain ⟨m, hm, rfl, hlk, hot, htw, hfr⟩ := hrel
        have hmb := hot.same _ _ _ _ HSZ.out.blk (by decide)
        have hnd := hot.same _ _ _ _ HNb.out (by decide)
        have hpb := hot.same _ _ _ _ HZ0.out (by decide)
        have HLk := Lib.hid hlk
        have HOt := Lib.hid hot
        have HTw := Lib.hid htw
        have HFr := Lib.hid hfr
        have h7 : wr.cell? ⟨mb, 7, none⟩ = some hv2 := cell_of hmb rfl
        have HMb := Lib.hid hmb
        clear hlk hot htw hfr
        by_cases hlt : m < n
        · have q1 : decide ((m : Int) < (n : Int)) = true := decide_eq_true (by omega)
          have q1n : decide (m < n) = true := decide_eq_true hlt
          have d5 : wr.cell? ⟨Y.heap.size, 5, none⟩ = some (.slice (some ⟨wb.heap.size, 0, none⟩) n n) := cell_of hnd rfl
          obtain ⟨bq, mq, cq, cs, e5, e55, hq1, hq2, hq3, hq4, hcb, hne, hbq, hot2, hlk2, htw2, hfr2⟩ := ins_round (Z := Z) (wr := wr.drew) (S := InS S w.heap.size 2) (mb := mb) (n := n) (nb := Y.heap.size) (tb := wb.heap.size) (hh := max hh n) (P := P) (i := m) HOt.out.drew (HLk.out.after (below_drew (Below.refl _ _))) h7 HTw.out hlt HMx.out.1 HMx.out.2 (fun nd hnd => (HSZ.out.h1 nd hnd).2) HPl.out HTt.out HTh.out HSt.out
          have hAm : A m = ⟨pB mb ns (lst ns m P), pO (lst ns m P), none⟩ := by
            have h1 := HAd.out m
            unfold ptL ptP at h1
            injection h1 with h1
            exact (Option.some.inj h1).symm
          have HLt : Hid (m < 12) := Lib.hid (by have := HMx.out; omega)
          have hpc : wr.cell? ⟨w.heap.size, m, none⟩ = some (.pointer (some (A m))) := by
            have h12 := HLt.out
            refine cell_of hpb ?_
            rcases m with _ | _ | _ | _ | _ | _ | _ | _ | _ | _ | _ | _ | m <;> first | omega | rfl
          rw [hAm] at hpc
          generalize pB mb ns (lst ns m P) = B at *
          generalize pO (lst ns m P) = O at *
          obtain ⟨q, hqq⟩ : ∃ q, (nxt (ns.drop P) m).map (fun b : Nat => (⟨b, 0, none⟩ : Addr)) = q := ⟨_, rfl⟩
          have hpq : pv (nxt (ns.drop P) m) = .pointer q := by unfold pv; rw [hqq]
          rw [hpq] at hcb e55 hot2 hlk2 htw2 hfr2
          obtain ⟨W1, hW1⟩ : ∃ W1, wr.drew.setCell ⟨wb.heap.size, m, none⟩ (.pointer q) = W1 := ⟨_, rfl⟩
          obtain ⟨W2, hW2⟩ : ∃ W2, W1.setCell ⟨bq, m, none⟩ (.pointer (some ⟨Y.heap.size, 0, none⟩)) = W2 := ⟨_, rfl⟩
          have hW2' : (wr.drew.setCell ⟨wb.heap.size, m, none⟩ (.pointer q)).setCell ⟨bq, m, none⟩ (pv (some Y.heap.size)) = W2 := by rw [hW1]; exact hW2
          rw [hW2'] at hot2 hlk2 htw2 hfr2
          rw [hW1] at e55
          have hf1 : Fr (fun k => k = wb.heap.size) wr W1 := by
            rw [← hW1]
            exact (Fr.refl (fun k => k = wb.heap.size) wr).drew.then (Fr.setCell (fun k => k = wb.heap.size) wr.drew (p := ⟨wb.heap.size, m, none⟩) rfl _)
          have z1 := frozen_of (i := m) HTw.out
          obtain ⟨u1, t1⟩ : ∃ u, wr.cell? ⟨wb.heap.size, m, none⟩ = some u := ⟨_, cell_of HTw.out (by rw [List.getElem?_toArray]; exact tows_at hlt)⟩
          have hb1 := (hf1.block bq (block_lt hbq) hne).trans hbq
          have z2 := frozen_of (i := m) hb1
          have t2 := (World.cell?_of_block (hf1.block bq (block_lt hbq) hne)).trans hcb
          have p2 := (World.cell?_of_block (hf1.block w.heap.size (block_lt hpb) (by have := HWb.out; omega))).trans hpc
          have HR := Lib.hid (And.intro hlk2 (And.intro hot2 (And.intro htw2 (HFr.out.drew.then hfr2))))
          have hm0 : (0 : Int) ≤ (m : Int) := by omega
          have hmn : (m : Int) < (n : Int) := by omega
          have hmq : (m : Int) < (mq : Int) := by omega
          have hm12 : (m : Int) < 12 := by have := HLt.out; omega
          have HM := Lib.hid hm
          have HLn := Lib.hid hlt
          clear hlk2 hot2 htw2 hfr2 hb1 hf1 hpq hqq hW2' hbq hpb hnd hmb h7 hm hlt hne hAm
          go_wp2_with fail
          go_still_tail 15, (by kernel_rfl)
          go_wp2_with fail
          go_roundg (n - (m + 1))
          case measure => have := HM.out; have := HLn.out; omega
          case rel =>
            have h1 := HM.out
            have h2 := HLn.out
            obtain ⟨r1, r2, r3, r4⟩ := HR.out
            exact ⟨m + 1, by omega, by go_num, r1, r2, r3, r4⟩
        · obtain rfl : m = n := by omega
          have q1 : decide ((m : Int) < (m : Int)) = false := decide_eq_false (by omega)
          have q1n : decide (m < m) = false := decide_eq_false hlt
          have c8 : wr.cell? ⟨mb, 8, none⟩ = some (.int .i64 (ns.length : Int)) := cell_of hmb rfl
          have z8 := frozen_of (i := 8) hmb
          have HFin := Lib.hid (HSZ.out.inserted HP.out HXp.out HOp.out HFd.out HN.out HMx.out.1 HOt.out HLk.out HNb.out HTw.out HSn.out HSt.out HTn.out HTt.out HTh.out)
          clear hlt hnd hpb h7 hm
          go_wp2_with fail
          go_end0
          obtain ⟨f1, f2⟩ := HFin.out
          have hfr := ((Fr.of_new HB.out (InS S w.heap.size 2)).then HFr.out).then f2
          refine ⟨rfl, ⟨hv2, some b, ⟨x, ns.length, m, Y.heap.size, wb.heap.size⟩, ?_, rfl, ?_⟩, ?_⟩
          · refine SkAt.mono (S := InS S w.heap.size 2) ?_ (fun k _ hk => hk.elim (fun h => .inl h.1) (fun h => .inr (by omega)))
            exact f1
          · exact HBk.out
          · exact hfr.mono fun k hk h => h.elim (fun h => h.1) (fun h => by omega)
end Go.Proofs.Ytaomneenflkpeaa
