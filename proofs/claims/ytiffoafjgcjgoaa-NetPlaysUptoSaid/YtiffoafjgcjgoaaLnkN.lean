/-
  The walk over the law's links: the links of the net are those of the reference.
-/
import Derived.Test.YtiffoafjgcjgoaaActN
namespace Go.Proofs.Ytiffoafjgcjgoaa
open Go.RowKit

theorem row_pre (L : List Msg) (f : Nat) {k : Nat} : ∀ {n : Nat}, k ≤ n → row L f k <+: row L f n
  | 0, h => by
    obtain rfl : k = 0 := by omega
    exact List.prefix_refl _
  | n + 1, h => by
    by_cases he : k = n + 1
    · subst he
      exact List.prefix_refl _
    · rw [row_succ]
      exact (row_pre L f (by omega)).trans (List.prefix_append _ _)
theorem lks_pre (L : List Msg) (m : Nat) {k : Nat} : ∀ {n : Nat}, k ≤ n → lks L m k <+: lks L m n
  | 0, h => by
    obtain rfl : k = 0 := by omega
    exact List.prefix_refl _
  | n + 1, h => by
    by_cases he : k = n + 1
    · subst he
      exact List.prefix_refl _
    · rw [lks_succ]
      exact (lks_pre L m (by omega)).trans (List.prefix_append _ _)
theorem lks_at (L : List Msg) {n a b : Nat} (ha : a < n) (hb : b < n) (hc : cnt L a b ≠ 0) : (lks L n n)[(lks L n a ++ row L a b).length]? = some (a, b, cnt L a b) := by
  have h1 : row L a (b + 1) = row L a b ++ [(a, b, cnt L a b)] := by
    rw [row_succ]
    unfold lk
    rw [if_neg hc]
  obtain ⟨t1, ht1⟩ := row_pre L a (show b + 1 ≤ n by omega)
  obtain ⟨t2, ht2⟩ := lks_pre L n (show a + 1 ≤ n by omega)
  have h2 : lks L n n = (lks L n a ++ row L a b) ++ ((a, b, cnt L a b) :: (t1 ++ t2)) := by
    rw [← ht2, lks_succ, ← ht1, h1]
    simp
  rw [h2, List.getElem?_append_right (Nat.le_refl _)]
  simp

set_option maxRecDepth 100000 in
set_option maxHeartbeats 4000000 in
theorem lnk_any (w : World) (S1 S2 : Nat → Prop) (nb rb : Nat) (N : PNet) (h1 : Nt w S1 nb N) (h2 : Rt w S2 rb N) :
    Calls Try.prog 11 #[.pointer (some ⟨nb, 0, none⟩), .pointer (some ⟨rb, 0, none⟩)] w fun e w' => e = .returned (.bool true) ∧ Below w.heap.size w w' := by
  have HL := Lib.hid (links_any w S1 nb N h1)
  have hwf := h1.wf
  have hn16 := hwf.n2
  have hlen := hwf.len
  have H1 := Lib.hid h1
  have H2 := Lib.hid h2
  clear h1 h2
  go_enter Try.func11, Try.ntmps11
  go_wp2_with fail
  refine HL.out.mono ?_
  rintro e w1 ⟨v, rfl, ho, hb⟩
  have h3 := H2.out.after hb
  have HC : Hid (∀ a b : Nat, Calls Try.prog 25 #[.pointer (some ⟨rb, 0, none⟩), .int .i64 (a : Int), .int .i64 (b : Int)] w1 fun e w' => e = .returned (.int .i64 (cnt N.L a b : Int)) ∧ w1 = w') := Lib.hid fun a b => by
    have := count_any w1 S2 rb N h3 a b
    rw [cI_nat] at this
    exact this
  have HB := Lib.hid hb
  have HA := Lib.hid (all_any (w1.drewN 1) S1 nb N ((H1.out.after hb).drewN 1))
  have HN1 := Lib.hid (H1.out.after hb)
  obtain ⟨mv, us, h3⟩ := h3
  have c0 := h3.c0
  have c2 := h3.c2
  have c3 := h3.c3
  obtain ⟨q, qc, rfl, hq1, hq2, _⟩ := h3.form
  have hrl := h3.lt
  obtain ⟨p, cap, rfl, hc1, hc2, hat⟩ := ho.form
  have HAt := Lib.hid hat
  have hll := lks_len N.L N.nodes N.nodes
  have hll2 : (lks N.L N.nodes N.nodes).length ≤ 256 := by
    have : N.nodes * N.nodes ≤ 16 * 16 := Nat.mul_le_mul hn16 hn16
    omega
  clear hb h3 ho hat HL hll
  go_wp2_with fail
  go_loop [6, 7] (fun kk i => ∃ a : Nat, a ≤ N.nodes ∧ i = .int .i64 (a : Int) ∧ kk = .int .i64 ((lks N.L N.nodes a).length : Int)) (fun _ i => N.nodes - (intOf i).toNat)
  case atStart => exact ⟨0, by omega, rfl, rfl⟩
  case round =>
    obtain ⟨a, ha, rfl, rfl⟩ := hrel
    by_cases hla : a < N.nodes
    · have HR0 : Hid ((lks N.L N.nodes a).length = (lks N.L N.nodes a ++ row N.L a 0).length) := Lib.hid (by rw [show row N.L a 0 = [] from rfl, List.append_nil])
      go_wp2_with fail
      go_loop [6, 8] (fun kk i => ∃ b : Nat, b ≤ N.nodes ∧ i = .int .i64 (b : Int) ∧ kk = .int .i64 ((lks N.L N.nodes a ++ row N.L a b).length : Int)) (fun _ i => N.nodes - (intOf i).toNat)
      case atStart => exact ⟨0, by omega, rfl, by rw [HR0.out]⟩
      case round =>
        obtain ⟨b, hb, rfl, rfl⟩ := hrel
        by_cases hlb : b < N.nodes
        · have HCa := Lib.hid (HC.out a b)
          have HS := Lib.hid (row_succ N.L a b)
          by_cases hz : cnt N.L a b = 0
          · have HK : Hid (lk N.L a b = []) := Lib.hid (by unfold lk; rw [if_pos hz])
            have HLen : Hid ((lks N.L N.nodes a ++ row N.L a (b + 1)).length = (lks N.L N.nodes a ++ row N.L a b).length) := Lib.hid (by rw [HS.out, HK.out, List.append_nil])
            rw [hz] at HCa
            generalize (lks N.L N.nodes a ++ row N.L a b).length = K at *
            clear hz
            go_wp2_with fail
            refine HCa.out.mono ?_
            rintro e w' ⟨rfl, rfl⟩
            go_wp2_with fail
            go_round
            case rel => exact ⟨b + 1, by omega, by go_num, by rw [HLen.out]⟩
            case measure => simp [intOf]; omega
          · have HK : Hid (lk N.L a b = [(a, b, cnt N.L a b)]) := Lib.hid (by unfold lk; rw [if_neg hz])
            have hlk := lks_at N.L hla hlb hz
            obtain ⟨g, rfl, d0, d1, d2⟩ := HAt.out _ _ _ _ hlk
            have hkl := (List.getElem?_eq_some_iff.1 hlk).1
            have HLen : Hid ((lks N.L N.nodes a ++ row N.L a (b + 1)).length = (lks N.L N.nodes a ++ row N.L a b).length + 1) := Lib.hid (by
              rw [HS.out, HK.out, ← List.append_assoc, List.length_append (bs := [_])]
              rfl)
            have hcz : ((cnt N.L a b : Int) == 0) = false := by rw [beq_eq_false_iff_ne]; omega
            generalize (lks N.L N.nodes a ++ row N.L a b).length = K at *
            generalize cnt N.L a b = c at *
            clear hz hlk
            go_wp2_with fail
            refine HCa.out.mono ?_
            rintro e w' ⟨rfl, rfl⟩
            go_wp2_with fail
            go_round
            case rel => exact ⟨b + 1, by omega, by go_num, by rw [HLen.out]; go_num⟩
            case measure => simp [intOf]; omega
        · obtain rfl : b = N.nodes := by omega
          have HS := Lib.hid (lks_succ N.L N.nodes a)
          go_wp2_with fail
          go_round
          case rel => exact ⟨a + 1, by omega, by go_num, by rw [HS.out]⟩
          case measure => simp [intOf]; omega
    · obtain rfl : a = N.nodes := by omega
      go_upto_region 14 with (fail)
      generalize (lks N.L N.nodes N.nodes).length = M at *
      have HlR := Lib.hid hrl
      clear hll2 HC H1 H2 HAt
      go_region_held3 (fun w' => w'.cell? ⟨rb, 3, none⟩ = some (.slice q N.L.length qc) ∧ w'.cell? ⟨rb, 2, none⟩ = some (.int .i64 (N.now : Int)))
        (first
          | exact ⟨c3, c2⟩
          | exact ⟨e3, e2⟩)
        (first
          | (go_at_call 16; refine HA.out.mono ?_; rintro e w2 ⟨rfl, hb2⟩; have hb2 : Below w1.heap.size w1 w2 := ⟨hb2.os, hb2.tape, hb2.output, hb2.size, hb2.block⟩; have e3 := (below_cells hb2 rb 3 HlR.out).trans c3; have e2 := (below_cells hb2 rb 2 HlR.out).trans c2; have HB2 := Lib.hid hb2; clear hb2)
          | (go_at_call 26; obtain ⟨gb, ro, bv, hx⟩ := HN1.out.after HB2.out; refine (now_any w2 S1 nb N gb ro bv hx).mono ?_; rintro e w3 ⟨rfl, rfl⟩; clear hx))
      all_goals
        go_wp2_with fail
        go_ret
        exact ⟨rfl, HB.out.trans (HB2.out.mono HB.out.size)⟩
end Go.Proofs.Ytiffoafjgcjgoaa
