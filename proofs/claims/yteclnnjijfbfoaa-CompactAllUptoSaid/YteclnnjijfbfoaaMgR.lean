/-
  The walk over (*queue).ahead.
-/
import Derived.Test.YteclnnjijfbfoaaMgQ
import Derived.Laws.EntriesVeiled
namespace Go.Proofs.Yteclnnjijfbfoaa
open Go.RowKit

theorem ahd_or (a b : Hd) : decide (orI (cmpE a.e b.e) (cmpU a.num b.num) < 0) = ahd a b := by
  unfold orI cmpU ahd
  rcases h1 : lessE a.e b.e with _ | _
  · rcases h2 : atE a.e b.e with _ | _
    · have h3 : ¬ cmpE a.e b.e < 0 := fun h => by rw [cmpE_neg.1 h] at h1; cases h1
      have h4 : ¬ cmpE a.e b.e = 0 := fun h => by rw [cmpE_zero.1 h] at h2; cases h2
      simp [h3, h4]
    · have h4 := cmpE_zero.2 h2
      by_cases h5 : a.num < b.num
      · simp [h4, h5]
      · by_cases h6 : b.num < a.num
        · simp [h4, h5, h6]
        · simp [h4, h5, h6]
  · have h3 := cmpE_neg.2 h1
    have h4 : ¬ cmpE a.e b.e = 0 := by omega
    simp [h3, h4]
set_option maxRecDepth 100000 in
set_option maxHeartbeats 1000000 in
theorem nan_int (w : World) (a : Nat) : Calls Try.prog 67 #[.int .i64 (a : Int)] w fun r w' => r = .returned (.bool false) ∧ w' = w := by
  go_enter Try.func67, Try.ntmps67
  go_wp2_with fail
  go_ret
  exact ⟨rfl, rfl⟩
set_option maxRecDepth 100000 in
set_option maxHeartbeats 1000000 in
theorem cmp_int (w : World) (a b : Nat) : Calls Try.prog 66 #[.int .i64 (a : Int), .int .i64 (b : Int)] w fun r w' => r = .returned (.int .i64 (cmpU a b)) ∧ w' = w := by
  have H1 := Lib.hid (nan_int w a)
  have H2 := Lib.hid (nan_int w b)
  obtain ⟨c, hc⟩ : ∃ c, cmpU a b = c := ⟨_, rfl⟩
  rw [hc]
  have hways : (a < b ∧ c = -1) ∨ (¬ a < b ∧ b < a ∧ c = 1) ∨ (¬ a < b ∧ ¬ b < a ∧ c = 0) := by
    rw [← hc]
    unfold cmpU
    by_cases h1 : a < b
    · exact .inl ⟨h1, by simp [h1]⟩
    · by_cases h2 : b < a
      · exact .inr (.inl ⟨h1, h2, by simp [h1, h2]⟩)
      · exact .inr (.inr ⟨h1, h2, by simp [h1, h2]⟩)
  clear hc
  rcases hways with ⟨q1, rfl⟩ | ⟨q1, q2, rfl⟩ | ⟨q1, q2, rfl⟩
  all_goals
    go_enter Try.func66, Try.ntmps66
    go_wp2_with (first | (go_at_call 67; refine H1.out.mono ?_; rintro r w1 ⟨rfl, rfl⟩) | (go_at_call 67; refine H2.out.mono ?_; rintro r w1 ⟨rfl, rfl⟩))
    go_ret
    exact ⟨rfl, rfl⟩
def HdBox (w : World) (g : Nat) (a : Hd) : Prop := w.heap[g]? = some (.cells #[.string ⟨a.e.key.toArray⟩, .int .u64 (a.e.seq : Int), .bool a.e.gone, .slice a.q a.e.val.length a.c, srcV a.bl, .int .i64 (a.num : Int)] 106 (0, 0))

theorem hd_two (w : World) (x y : Hd) : HdBox ((w.alloc (.cells #[.string ⟨x.e.key.toArray⟩, .int .u64 (x.e.seq : Int), .bool x.e.gone, .slice x.q x.e.val.length x.c, srcV x.bl, .int .i64 (x.num : Int)] 106)).alloc (.cells #[.string ⟨y.e.key.toArray⟩, .int .u64 (y.e.seq : Int), .bool y.e.gone, .slice y.q y.e.val.length y.c, srcV y.bl, .int .i64 (y.num : Int)] 106)).drew w.heap.size x ∧
    HdBox ((w.alloc (.cells #[.string ⟨x.e.key.toArray⟩, .int .u64 (x.e.seq : Int), .bool x.e.gone, .slice x.q x.e.val.length x.c, srcV x.bl, .int .i64 (x.num : Int)] 106)).alloc (.cells #[.string ⟨y.e.key.toArray⟩, .int .u64 (y.e.seq : Int), .bool y.e.gone, .slice y.q y.e.val.length y.c, srcV y.bl, .int .i64 (y.num : Int)] 106)).drew (w.heap.size + 1) y ∧
    Below w.heap.size w ((w.alloc (.cells #[.string ⟨x.e.key.toArray⟩, .int .u64 (x.e.seq : Int), .bool x.e.gone, .slice x.q x.e.val.length x.c, srcV x.bl, .int .i64 (x.num : Int)] 106)).alloc (.cells #[.string ⟨y.e.key.toArray⟩, .int .u64 (y.e.seq : Int), .bool y.e.gone, .slice y.q y.e.val.length y.c, srcV y.bl, .int .i64 (y.num : Int)] 106)).drew :=
  ⟨(alloc_old (by simp) _).trans (heap_alloc_new w _), heap_alloc2_new w _ _, below_drew (((Below.refl _ _).alloc (Nat.le_refl _) _).alloc (by simp) _)⟩

set_option maxRecDepth 100000 in
set_option maxHeartbeats 4000000 in
theorem q_ahead (w : World) (A qb : Nat) (hp : Option Addr) (cap : Nat) (hs : List Hd) (h : QM w A qb hp cap hs) {i j : Nat} {a b : Hd} (ha : hs[i]? = some a) (hb : hs[j]? = some b) :
    Calls Try.prog 64 #[.pointer (some ⟨qb, 0, none⟩), .int .i64 (i : Int), .int .i64 (j : Int)] w fun r w' => r = .returned (.bool (ahd a b)) ∧ Below w.heap.size w w' := by
  obtain ⟨hlc, hcm⟩ := h.room
  have hfew := h.few
  have hi := (List.getElem?_eq_some_iff.1 ha).1
  have hj := (List.getElem?_eq_some_iff.1 hb).1
  obtain ⟨g, rfl, hgA, hgl, a0, a1, a2, a3, a4, a5⟩ := h.at_ ha
  obtain ⟨g', e, _, _, b0, b1, b2, b3, b4, b5⟩ := h.at_ hb
  injection e with e
  injection e with e _ _
  subst e
  have q0 := cell_of (i := 0) h.q rfl
  have q1 := cell_of (i := 1) h.q rfl
  have hql := block_lt h.q
  have HQ := Lib.hid h
  have HAO := Lib.hid (ahd_or a b)
  generalize hn : hs.length = n at *
  clear h ha hb hn
  unfold srcV at a4 b4
  unfold cmpV at q1
  go_enter Try.func64, Try.ntmps64
  go_upto_region 1 with (fail)
  go_cut [7, 8] (fun p q wx => ∃ ga gb, p = .pointer (some ⟨ga, 0, none⟩) ∧ q = .pointer (some ⟨gb, 0, none⟩) ∧ Hid (HdBox wx ga a ∧ HdBox wx gb b ∧ Below w.heap.size w wx))
  case first =>
    go_region
    all_goals (go_wp2_with fail; go_meet)
    · exact ⟨_, _, rfl, rfl, Lib.hid (hd_two w a b)⟩
    · exact ⟨_, _, rfl, rfl, Lib.hid ⟨(hd_two w b a).2.1, (hd_two w b a).1, (hd_two w b a).2.2⟩⟩
  case rest =>
    obtain ⟨ga, gb, rfl, rfl, hid1⟩ := hcut
    obtain ⟨wx, hwx⟩ : ∃ wx : World, wx = wc := ⟨_, rfl⟩
    subst hwx
    have HB := Lib.hid hid1.out.2.2
    have HE : Hid (∀ V, Below wx.heap.size wx V →
        ((V.cell? ⟨ga, 0, none⟩ = some (.string ⟨a.e.key.toArray⟩) ∧ V.cell? ⟨ga, 1, none⟩ = some (.int .u64 (a.e.seq : Int)) ∧ V.cell? ⟨ga, 2, none⟩ = some (.bool a.e.gone) ∧ V.cell? ⟨ga, 3, none⟩ = some (.slice a.q a.e.val.length a.c) ∧ V.cell? ⟨ga, 5, none⟩ = some (.int .i64 (a.num : Int))) ∧
        (V.cell? ⟨gb, 0, none⟩ = some (.string ⟨b.e.key.toArray⟩) ∧ V.cell? ⟨gb, 1, none⟩ = some (.int .u64 (b.e.seq : Int)) ∧ V.cell? ⟨gb, 2, none⟩ = some (.bool b.e.gone) ∧ V.cell? ⟨gb, 3, none⟩ = some (.slice b.q b.e.val.length b.c) ∧ V.cell? ⟨gb, 5, none⟩ = some (.int .i64 (b.num : Int)))) ∧
        V.cell? ⟨qb, 1, none⟩ = some (.func (.func 32) #[] #[])) := Lib.hid (fun V hV => by
      have ha := (hV.block _ (block_lt hid1.out.1)).trans hid1.out.1
      have hb := (hV.block _ (block_lt hid1.out.2.1)).trans hid1.out.2.1
      have hq := (HQ.out.below (hid1.out.2.2.trans (hV.mono hid1.out.2.2.size))).q
      exact ⟨⟨⟨cell_of (i := 0) ha rfl, cell_of (i := 1) ha rfl, cell_of (i := 2) ha rfl, cell_of (i := 3) ha rfl, cell_of (i := 5) ha rfl⟩, ⟨cell_of (i := 0) hb rfl, cell_of (i := 1) hb rfl, cell_of (i := 2) hb rfl, cell_of (i := 3) hb rfl, cell_of (i := 5) hb rfl⟩⟩, cell_of (i := 1) hq rfl⟩)
    have HC : Hid (∀ V, Calls Try.prog 32 #[.agg #[.string ⟨a.e.key.toArray⟩, .int .u64 (a.e.seq : Int), .bool a.e.gone, .slice a.q a.e.val.length a.c], .agg #[.string ⟨b.e.key.toArray⟩, .int .u64 (b.e.seq : Int), .bool b.e.gone, .slice b.q b.e.val.length b.c]] V
        fun e w' => e = .returned (.int .i64 (cmpE a.e b.e)) ∧ Below V.heap.size V w') := Lib.hid (fun V => mg_compare V a.e b.e a.q b.q _ _ a.c b.c)
    have HBn : Hid (Below wx.heap.size wx wx.drew) := Lib.hid (below_drew (Below.refl _ _))
    clear hid1 HQ a0 a1 a2 a3 a4 a5 b0 b1 b2 b3 b4 b5 q0 q1 hgl hql hgA
    generalize cmpE a.e b.e = c at *
    go_upto_region 2 with (fail)
    go_region_held3 (fun w' => ((w'.cell? ⟨ga, 0, none⟩ = some (.string ⟨a.e.key.toArray⟩) ∧ w'.cell? ⟨ga, 1, none⟩ = some (.int .u64 (a.e.seq : Int)) ∧ w'.cell? ⟨ga, 2, none⟩ = some (.bool a.e.gone) ∧ w'.cell? ⟨ga, 3, none⟩ = some (.slice a.q a.e.val.length a.c) ∧ w'.cell? ⟨ga, 5, none⟩ = some (.int .i64 (a.num : Int))) ∧
        (w'.cell? ⟨gb, 0, none⟩ = some (.string ⟨b.e.key.toArray⟩) ∧ w'.cell? ⟨gb, 1, none⟩ = some (.int .u64 (b.e.seq : Int)) ∧ w'.cell? ⟨gb, 2, none⟩ = some (.bool b.e.gone) ∧ w'.cell? ⟨gb, 3, none⟩ = some (.slice b.q b.e.val.length b.c) ∧ w'.cell? ⟨gb, 5, none⟩ = some (.int .i64 (b.num : Int)))) ∧
        w'.cell? ⟨qb, 1, none⟩ = some (.func (.func 32) #[] #[]))
      (first
        | exact HE.out _ HBn.out
        | exact HE.out _ (HBn.out.alloc HBn.out.size _))
      (first
        | (go_at_call 32
           refine (HC.out _).mono ?_
           rintro r wz ⟨rfl, hbz⟩
           have HBn' := Lib.hid (HBn.out.trans (hbz.mono HBn.out.size))
           clear hbz HBn
           have HBn := HBn'
           clear HBn')
        | (go_at_call 66
           refine (cmp_int _ _ _).mono ?_
           rintro r wz ⟨rfl, rfl⟩)
        | (go_at_call 50
           refine (cmp_or _ _ _ _ _ (cell_of (heap_alloc_new _ _) rfl) (cell_of (heap_alloc_new _ _) rfl)).mono ?_
           rintro r wz ⟨rfl, rfl⟩))
    all_goals (go_wp2_with fail; go_ret; exact ⟨by first | rfl | (rw [HAO.out]; rfl) | rw [HAO.out], HB.out.trans ((HBn.out.alloc HBn.out.size _).mono HB.out.size)⟩)
end Go.Proofs.Yteclnnjijfbfoaa
