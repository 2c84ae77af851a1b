/-
  The walks over the reference's New, Count, meant.
-/
import Derived.Test.YtiffoafjgcjgoaaRt
namespace Go.Proofs.Ytiffoafjgcjgoaa
open Go.RowKit

def onI (f t : Int) (m : Msg) : Bool := decide ((m.src : Int) = f) && decide ((m.dst : Int) = t)
def cI (L : List Msg) (f t : Int) : Nat := (L.filter (onI f t)).length
theorem cI_succ (L : List Msg) (k : Nat) (m : Msg) (h : L[k]? = some m) (f t : Int) : cI (L.take (k + 1)) f t = cI (L.take k) f t + if onI f t m = true then 1 else 0 := by
  unfold cI
  rw [take_snoc L k m h, List.filter_append, List.length_append]
  split
  · rename_i hm
    simp [hm]
  · rename_i hm
    simp [hm]
theorem cI_le (L : List Msg) (f t : Int) : cI L f t ≤ L.length := List.length_filter_le _ _
theorem onI_nat (f t : Nat) (m : Msg) : onI (f : Int) (t : Int) m = onl f t m := by
  rw [Bool.eq_iff_iff]
  simp [onI, onl]
  omega
theorem cI_nat (L : List Msg) (f t : Nat) : cI L (f : Int) (t : Int) = cnt L f t := by
  unfold cI cnt bag
  rw [List.length_map]
  congr 1
  exact List.filter_congr fun m _ => onI_nat f t m
theorem cI_none {N : PNet} (h : Wf N) {f t : Int} (hl : isLink N f t = false) : cI N.L f t = 0 := by
  unfold cI
  rw [List.length_eq_zero_iff, List.filter_eq_nil_iff]
  intro m hm ho
  have h1 := h.inn m hm
  have h2 : isLink N f t = true := by
    rw [isLink_iff]
    simp [onI] at ho
    omega
  rw [hl] at h2
  cases h2
theorem cI_take_le (L : List Msg) (k : Nat) (f t : Int) : cI (L.take k) f t ≤ k := Nat.le_trans (cI_le _ _ _) (by rw [List.length_take]; omega)

set_option maxRecDepth 100000 in
set_option maxHeartbeats 2000000 in
theorem count_any (w : World) (S : Nat → Prop) (rb : Nat) (N : PNet) (h : Rt w S rb N) (f t : Int) :
    Calls Try.prog 25 #[.pointer (some ⟨rb, 0, none⟩), .int .i64 f, .int .i64 t] w fun e w' => e = .returned (.int .i64 (cI N.L f t : Int)) ∧ w = w' := by
  obtain ⟨mv, us, h⟩ := h
  have c3 := h.c3
  have hlen := h.wf.len
  obtain ⟨p, cap, rfl, hlc, hcm, hat⟩ := h.form
  have HA := Lib.hid hat
  clear hat h
  go_enter Try.func25, Try.ntmps25
  go_wp2_with fail
  go_loop [7, 8] (fun c i => ∃ k : Nat, k ≤ N.L.length ∧ i = .int .i64 (k : Int) ∧ c = .int .i64 (cI (N.L.take k) f t : Int)) (fun _ i => N.L.length - (intOf i).toNat)
  case atStart => exact ⟨0, by omega, rfl, rfl⟩
  case round =>
    obtain ⟨k, hk, rfl, rfl⟩ := hrel
    by_cases hlt : k < N.L.length
    · obtain ⟨g, u, rfl, d0, d1, _, _, _⟩ := HA.out k _ (List.getElem?_eq_getElem hlt)
      have HS := Lib.hid (cI_succ N.L k _ (List.getElem?_eq_getElem hlt) f t)
      have hc := cI_take_le N.L k f t
      generalize cI (N.L.take k) f t = c at *
      generalize N.L[k] = m at *
      by_cases h1 : (m.src : Int) = f
      · have q1 : ((m.src : Int) == f) = true := by simpa using h1
        by_cases h2 : (m.dst : Int) = t
        · have q2 : ((m.dst : Int) == t) = true := by simpa using h2
          have HO : Hid (onI f t m = true) := Lib.hid (by simp [onI, h1, h2])
          clear h1 h2
          go_wp2_with fail
          go_round
          case rel => exact ⟨k + 1, by omega, by go_num, by rw [HS.out, if_pos HO.out]; go_num⟩
          case measure => simp [intOf]; omega
        · have q2 : ((m.dst : Int) == t) = false := by simpa using h2
          have HO : Hid (¬ onI f t m = true) := Lib.hid (by simp [onI, h1, h2])
          clear h1 h2
          go_wp2_with fail
          go_round
          case rel => exact ⟨k + 1, by omega, by go_num, by rw [HS.out, if_neg HO.out]; rfl⟩
          case measure => simp [intOf]; omega
      · have q1 : ((m.src : Int) == f) = false := by simpa using h1
        have HO : Hid (¬ onI f t m = true) := Lib.hid (by simp [onI, h1])
        clear h1
        go_wp2_with fail
        go_round
        case rel => exact ⟨k + 1, by omega, by go_num, by rw [HS.out, if_neg HO.out]; rfl⟩
        case measure => simp [intOf]; omega
    · have hke : k = N.L.length := by omega
      go_wp2_with fail
      go_ret
      exact ⟨rfl, rfl⟩

set_option maxHeartbeats 400000 in
theorem rnew_bad (w : World) (n b : Int) (hn : n < 1 ∨ 16 < n ∨ b < 1 ∨ 65536 < b) : Calls Try.prog 9 #[.int .i64 n, .int .i64 b] w fun e w' => e = .returned (.tuple #[.pointer none, .int .i64 1]) ∧ w = w' := by
  by_cases h1 : n < 1
  · go_enter Try.func9, Try.ntmps9
    go_wp2
    go_ret2
    exact ⟨rfl, rfl⟩
  · by_cases h2 : 16 < n
    · go_enter Try.func9, Try.ntmps9
      go_wp2
      go_ret2
      exact ⟨rfl, rfl⟩
    · by_cases h3 : b < 1
      · clear hn
        go_enter Try.func9, Try.ntmps9
        go_wp2
        go_ret2
        exact ⟨rfl, rfl⟩
      · have h4 : 65536 < b := by omega
        clear hn
        go_enter Try.func9, Try.ntmps9
        go_wp2
        go_ret2
        exact ⟨rfl, rfl⟩
set_option maxHeartbeats 400000 in
theorem rnew_any (w : World) (n b : Nat) (h1 : 1 ≤ n) (h2 : n ≤ 16) (h3 : 1 ≤ b) (h4 : b ≤ 65536) : Calls Try.prog 9 #[.int .i64 (n : Int), .int .i64 (b : Int)] w fun e w' => e = .returned (.tuple #[.pointer (some ⟨w.heap.size, 0, none⟩), .int .i64 0]) ∧ Rt w' (fun k => w.heap.size ≤ k) w.heap.size ⟨n, b, 0, []⟩ ∧ Below w.heap.size w w' := by
  have q1 : (1 : Int) ≤ (n : Int) := by omega
  have q2 : (n : Int) ≤ 16 := by omega
  have q3 : (1 : Int) ≤ (b : Int) := by omega
  have q4 : (b : Int) ≤ 65536 := by omega
  go_enter Try.func9, Try.ntmps9
  go_wp2
  go_ret2
  exact ⟨rfl, ⟨.slice none 0 0, [], heap_alloc_new w _, World.ownsRow_nil _ _ _ _, rfl, (fun k m u h => by simp at h), ⟨h1, h2, h3, h4, (fun m hm => by cases hm), (fun m hm => by cases hm), fun f t => Nat.zero_le _⟩, Nat.le_refl _, fun k e => by cases e⟩, (Below.refl _ _).alloc (Nat.le_refl _) _⟩

set_option maxHeartbeats 400000 in
theorem rmeant_none (w : World) (S : Nat → Prop) (rb : Nat) (N : PNet) (h : Rt w S rb N) (f t p : Int) (hc : cI N.L f t = 0) :
    Calls Try.prog 33 #[.pointer (some ⟨rb, 0, none⟩), .int .i64 f, .int .i64 t, .int .i64 p] w fun e w' => e = .returned (.int .i64 (-1)) ∧ w = w' := by
  have HC := Lib.hid (count_any w S rb N h f t)
  rw [hc] at HC
  clear h hc
  go_enter Try.func33, Try.ntmps33
  go_wp2_with fail
  refine HC.out.mono ?_
  rintro e w1 ⟨rfl, rfl⟩
  go_wp2_with fail
  go_ret
  exact ⟨rfl, rfl⟩

set_option maxRecDepth 100000 in
set_option maxHeartbeats 2000000 in
theorem rmeant_some (w : World) (S : Nat → Prop) (rb : Nat) (N : PNet) (h : Rt w S rb N) (f t : Nat) (p : Int) (hp : -9223372036854775808 ≤ p ∧ p ≤ 9223372036854775807) (hc : 0 < cnt N.L f t) :
    Calls Try.prog 33 #[.pointer (some ⟨rb, 0, none⟩), .int .i64 (f : Int), .int .i64 (t : Int), .int .i64 p] w fun e w' => e = .returned (.int .i64 (pos f t (pick p (cnt N.L f t)) N.L : Int)) ∧ w = w' := by
  have HC := Lib.hid (count_any w S rb N h f t)
  rw [cI_nat] at HC
  obtain ⟨mv, us, h⟩ := h
  have c3 := h.c3
  have hlen := h.wf.len
  have hcl := cnt_le N.L f t
  obtain ⟨q, cap, rfl, hlc, hcm, hat⟩ := h.form
  have HA := Lib.hid hat
  have HP : Hid (pick p (cnt N.L f t) = p.toNat % cnt N.L f t) := Lib.hid rfl
  have HK : Hid (pick p (cnt N.L f t) < cnt N.L f t) := Lib.hid (pick_lt hc)
  have hkn : pick p (cnt N.L f t) < cnt N.L f t := pick_lt hc
  obtain ⟨k0, hk0⟩ : ∃ k, pick p (cnt N.L f t) = k := ⟨_, rfl⟩
  rw [hk0] at HP HK hkn ⊢
  have HCn : Hid (cnt N.L f t = cnt N.L f t) := Lib.hid rfl
  obtain ⟨n, hn⟩ : ∃ n, cnt N.L f t = n := ⟨_, rfl⟩
  rw [hn] at HC HP hc hkn hcl
  have HN := Lib.hid hn
  have hq : (p < 0 ∧ (k0 : Int) = 0) ∨ (0 ≤ p ∧ (k0 : Int) = p % (n : Int)) := by
    rcases Int.lt_or_le p 0 with h | h
    · refine .inl ⟨h, ?_⟩
      rw [HP.out, show p.toNat = 0 by omega]
      simp
    · refine .inr ⟨h, ?_⟩
      rw [HP.out, Int.natCast_emod, Int.toNat_of_nonneg h]
  have hnz : ((n : Int) == 0) = false := by rw [beq_eq_false_iff_ne]; omega
  clear hat h hk0 hn HCn
  rcases hq with ⟨hneg, hk⟩ | ⟨hneg, hk⟩
  all_goals
    have HKK := Lib.hid hk
    clear hk
    go_enter Try.func33, Try.ntmps33
    go_wp2_with fail
    refine HC.out.mono ?_
    rintro e w1 ⟨rfl, rfl⟩
    go_wp2_with fail
    go_loop [3, 10] (fun pp i => ∃ (j : Nat) (d : Int), j ≤ N.L.length ∧ i = .int .i64 (j : Int) ∧ pp = .int .i64 d ∧ 0 ≤ d ∧ d ≤ (k0 : Int) ∧ d = (k0 : Int) - (cnt (N.L.take j) f t : Int)) (fun _ i => N.L.length - (intOf i).toNat)
    case atStart => exact ⟨0, (k0 : Int), by omega, rfl, by rw [HKK.out], by omega, by omega, by rw [List.take_zero]; simp [cnt, bag]⟩
    case round =>
      obtain ⟨j, d, hj, rfl, rfl, hd0, hd1, hd⟩ := hrel
      have HD := Lib.hid hd
      clear hd
      by_cases hlt : j < N.L.length
      · obtain ⟨g, u, rfl, d0, d1, _, _, _⟩ := HA.out j _ (List.getElem?_eq_getElem hlt)
        have HS := Lib.hid (cnt_take_succ N.L j _ (List.getElem?_eq_getElem hlt) f t)
        have HM : Hid (N.L[j]? = some N.L[j]) := Lib.hid (List.getElem?_eq_getElem hlt)
        generalize N.L[j] = m at *
        by_cases h1 : m.src = f
        · have q1 : ((m.src : Int) == (f : Int)) = true := by rw [beq_iff_eq]; omega
          by_cases h2 : m.dst = t
          · have q2 : ((m.dst : Int) == (t : Int)) = true := by rw [beq_iff_eq]; omega
            have HO : Hid (onl f t m = true) := Lib.hid (by simp [onl, h1, h2])
            clear h1 h2
            by_cases h3 : d = 0
            · have q3 : (d == 0) = true := by simpa using h3
              have HPos : Hid (pos f t k0 N.L = j) := Lib.hid (pos_is N.L f t k0 j m HM.out HO.out (by have := HD.out; omega))
              clear h3
              go_wp2_with fail
              go_ret
              rw [HPos.out]
              exact ⟨rfl, rfl⟩
            · have q3 : (d == 0) = false := by simpa using h3
              go_wp2_with fail
              go_round
              case rel => exact ⟨j + 1, d - 1, by omega, by go_num, by go_num, by omega, by omega, by rw [HS.out, if_pos HO.out, HD.out]; omega⟩
              case measure => simp [intOf]; omega
          · have q2 : ((m.dst : Int) == (t : Int)) = false := by rw [beq_eq_false_iff_ne]; omega
            have HO : Hid (¬ onl f t m = true) := Lib.hid (by simp [onl, h1, h2])
            clear h1 h2
            go_wp2_with fail
            go_round
            case rel => exact ⟨j + 1, d, by omega, by go_num, rfl, hd0, hd1, by rw [HS.out, if_neg HO.out, HD.out]; omega⟩
            case measure => simp [intOf]; omega
        · have q1 : ((m.src : Int) == (f : Int)) = false := by rw [beq_eq_false_iff_ne]; omega
          have HO : Hid (¬ onl f t m = true) := Lib.hid (by simp [onl, h1])
          clear h1
          go_wp2_with fail
          go_round
          case rel => exact ⟨j + 1, d, by omega, by go_num, rfl, hd0, hd1, by rw [HS.out, if_neg HO.out, HD.out]; omega⟩
          case measure => simp [intOf]; omega
      · exfalso
        have hke : j = N.L.length := by omega
        have h1 := HD.out
        rw [hke, List.take_length, HN.out] at h1
        omega
end Go.Proofs.Ytiffoafjgcjgoaa
