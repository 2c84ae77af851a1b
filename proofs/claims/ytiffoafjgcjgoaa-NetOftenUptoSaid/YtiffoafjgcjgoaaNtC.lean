/-
  The walks over Delete (one text out of a bag) and take.
-/
import Derived.Test.YtiffoafjgcjgoaaNtB
import Derived.Deep.RegionLaw
import Derived.Lib.SliceRun
namespace Go.Proofs.Ytiffoafjgcjgoaa
open Go.RowKit

theorem zeroStr (w : World) : (zeroValue 9).run Try.prog w = .ok (.string ⟨#[]⟩) w := by kernel_rfl
def sv (s : List UInt8) : Value := .string ⟨s.toArray⟩

set_option maxRecDepth 1000000 in
set_option maxHeartbeats 4000000 in
theorem del_any (w : World) (g off cap i j : Nat) (cur : Array Value) (ss : List (List UInt8)) (hg : w.heap[g]? = some (.cells cur 9 (0, 0))) (hn : ss.length ≤ cap) (hoc : off + cap ≤ cur.size) (hm : cap ≤ maxLen)
    (hat : ∀ k s, ss[k]? = some s → cur[off + k]? = some (.string ⟨s.toArray⟩)) (hi : i < ss.length) (hj : j = i + 1) :
    Calls Try.prog 36 #[.slice (some ⟨g, off, none⟩) ss.length cap, .int .i64 (i : Int), .int .i64 (j : Int)] w fun e w' => e = .returned (.slice (some ⟨g, off, none⟩) (ss.length - 1) cap) ∧
      (∃ cur', w'.heap[g]? = some (.cells cur' 9 (0, 0)) ∧ cur'.size = cur.size ∧ ∀ k s, (ss.eraseIdx i)[k]? = some s → cur'[off + k]? = some (.string ⟨s.toArray⟩)) ∧ Fr (fun k => k = g) w w' := by
  obtain ⟨i0, hi0, hz0, hz1, hz2⟩ := info_parts infoStr
  obtain ⟨n, hnn⟩ : ∃ n, ss.length = n := ⟨_, rfl⟩
  obtain ⟨news, hnews⟩ : ∃ news, news = (ss.drop j).map sv := ⟨_, rfl⟩
  have hlen : news.length = n - j := by rw [hnews]; simp [hnn]
  have hget : ∀ t u, news[t]? = some u → cur[off + (j + t)]? = some u := by
    intro t u hu
    rw [hnews, List.getElem?_map, List.getElem?_drop] at hu
    obtain ⟨s, hs, rfl⟩ := Option.map_eq_some_iff.1 hu
    exact hat _ _ hs
  have hmm : cap ≤ 9223372036854775807 := by unfold maxLen at hm; exact hm
  have hgd : w.drew.heap[g]? = some (.cells cur 9 (0, 0)) := hg
  obtain ⟨A, hA, hsrc⟩ : ∃ A : Addr, (if cap = j then some (⟨g, off, none⟩ : Addr) else some ⟨g, off + j, none⟩) = some A ∧ Hid (∀ t u, news[t]? = some u → w.drew.cell? (A.add t) = some u) := by
    by_cases h : cap = j
    · refine ⟨⟨g, off, none⟩, by simp [h], Lib.hid fun t u hu => ?_⟩
      have h0 : news.length = 0 := by rw [hlen]; omega
      rw [List.length_eq_zero_iff.1 h0] at hu
      simp at hu
    · refine ⟨⟨g, off + j, none⟩, by simp [h], Lib.hid fun t u hu => ?_⟩
      rw [Addr.add_lit]
      show w.drew.cell? ⟨g, off + j + t, none⟩ = some u
      rw [Nat.add_assoc]
      exact cell_of hgd (hget t u hu)
  have s1 : Hid (news.length = (n - j) * 1) := Lib.hid (by rw [Nat.mul_one]; exact hlen)
  have s2 : Hid (∀ u ∈ news, u.oneCell' = true) := Lib.hid (by
    intro u hu
    rw [hnews] at hu
    obtain ⟨x, _, rfl⟩ := List.mem_map.1 hu
    rfl)
  have s3 : Hid (∀ t, t < news.length → (w.drew.cell? ⟨g, off + i * 1 + t, none⟩).isSome = true ∧ w.drew.frozen? ⟨g, off + i * 1 + t, none⟩ = false) := Lib.hid (by
    intro t ht
    rw [hlen] at ht
    refine ⟨?_, frozen_of hgd⟩
    have hb : off + i * 1 + t < cur.size := by omega
    rw [cell_of hgd (Array.getElem?_eq_getElem hb)]
    rfl)
  obtain ⟨W1, hW1⟩ : ∃ W1, W1 = w.drew.setCells g (off + i * 1) news := ⟨_, rfl⟩
  have hB1 : W1.heap[g]? = some (.cells (setL cur (off + i) news) 9 (0, 0)) := by
    rw [hW1, Nat.mul_one]
    exact setCells_same news (off + i) w.drew hgd
  have hF1 : Fr (fun k => k = g) w W1 := by
    rw [hW1]
    exact ((Fr.refl _ w).drew).then (setCells_fr news _ _ _ _ rfl)
  have hcl : ∀ ty, (Builtin.clear_ #[71] ty #[.slice (some ⟨g, off + (i + (n - j)), none⟩) (n - (i + (n - j))) (cap - (i + (n - j)))]).run Try.prog W1 = .ok (.tuple #[]) (W1.setCells g (off + (i + (n - j))) (List.replicate (n - (i + (n - j))) (.string ⟨#[]⟩))) :=
    fun ty => Lib.run_clear_slice W1 _ _ ty _ Try.underlying71 zeroStr rfl rfl g (off + (i + (n - j))) _ _ (by omega) (fun t ht => by
      have hb : off + (i + (n - j)) + t < (setL cur (off + i) news).size := by rw [setL_size]; omega
      rw [cell_of hB1 (Array.getElem?_eq_getElem hb)]
      rfl) (fun t ht => frozen_of hB1)
  have hW : Hid (W1 = w.drew.setCells g (off + i * 1) news) := Lib.hid hW1
  have HB1 := Lib.hid hB1
  have HF1 := Lib.hid hF1
  have HG := Lib.hid hget
  have HAt := Lib.hid hat
  have HNw := Lib.hid hlen
  have HNn := Lib.hid hnn
  have hic : i ≤ cap := by omega
  have hjc : j ≤ cap := by omega
  have hij : ¬ i = j := by omega
  rw [hnn] at hn hi ⊢
  have HNews := Lib.hid hnews
  have HJ := Lib.hid hj
  have hlt : i < j := by omega
  have hjn : j ≤ n := by omega
  clear hj
  clear hW1 hB1 hF1 hg hgd hget hnews hlen hat hnn hm
  go_enter Try.func36, Try.ntmps36
  go_wp2_with fail
  go_region_law (refine step_append_room rfl (.tmp 22) (.tmp 25) 71 rfl 9 i0 1 Try.underlying71 hi0 hz1 g off i cap (by simp [Act.eval, Act.put]) A (n - j) (cap - j) news (by simp [Act.eval, Act.put]) s1.out hsrc.out s2.out (by omega) s3.out ?_; rw [← hW.out])
  go_wp2
  go_ret
  have hj := HJ.out
  refine ⟨by rw [show n - 1 = i + (n - j) by omega]; rfl, ⟨_, setCells_same _ _ _ HB1.out, by rw [setL_size, setL_size], fun k s hk => ?_⟩, HF1.out.then (setCells_fr _ _ _ _ _ rfl)⟩
  have hkn : k < n - 1 := by
    have h1 := (List.getElem?_eq_some_iff.1 hk).1
    have h2 := HNn.out
    rw [List.length_eraseIdx_of_lt (by omega)] at h1
    omega
  rw [setL_out _ _ _ _ (by omega)]
  by_cases hki : k < i
  · rw [setL_out _ _ _ _ (by omega)]
    rw [List.getElem?_eraseIdx_of_lt hki] at hk
    exact HAt.out k s hk
  · rw [List.getElem?_eraseIdx_of_ge (by omega)] at hk
    have h3 : news[k - i]? = some (.string ⟨s.toArray⟩) := by
      rw [HNews.out, List.getElem?_map, List.getElem?_drop, show j + (k - i) = k + 1 by omega, hk]
      rfl
    have h4 := setL_in news (off + i) cur (k - i) _ h3 (by omega)
    rw [show off + i + (k - i) = off + k by omega] at h4
    exact h4
end Go.Proofs.Ytiffoafjgcjgoaa
