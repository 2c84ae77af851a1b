/-
  The walks over the reference's Clear and Deliver.
-/
import Derived.Test.YtiffoafjgcjgoaaRtC
namespace Go.Proofs.Ytiffoafjgcjgoaa
open Go.RowKit

def offN (n : Int) (m : Msg) : Bool := !(decide ((m.src : Int) = n)) && !(decide ((m.dst : Int) = n))
theorem clr_eq (n : Int) (L : List Msg) : clr n L = L.filter (offN n) := rfl
theorem clr_take_succ (n : Int) (L : List Msg) (k : Nat) (m : Msg) (h : L[k]? = some m) : clr n (L.take (k + 1)) = clr n (L.take k) ++ (if offN n m = true then [m] else []) := by
  rw [clr_eq, clr_eq, take_snoc L k m h, List.filter_append]
  congr 1
  split
  · rename_i hm
    simp [hm]
  · rename_i hm
    simp [hm]
theorem clr_take_len (n : Int) (L : List Msg) (k : Nat) : (clr n (L.take k)).length ≤ k := Nat.le_trans (List.length_filter_le _ _) (by rw [List.length_take]; omega)

set_option maxRecDepth 100000 in
set_option maxHeartbeats 4000000 in
theorem rclear_any (w : World) (S : Nat → Prop) (rb : Nat) (N : PNet) (h : Rt w S rb N) (n : Int) :
    Calls Try.prog 22 #[.pointer (some ⟨rb, 0, none⟩), .int .i64 n] w fun e w' => e = .returned (.tuple #[]) ∧ Rt w' (More S w.heap.size) rb (clear_ N n) ∧ Fr S w w' := by
  obtain ⟨mv, us, h⟩ := h
  have hlen := h.wf.len
  have c3 := h.c3
  have z3 := h.fz 3
  have hlt := h.lt
  obtain ⟨p, cap, rfl, hlc, hcm, hat⟩ := h.form
  have HA := Lib.hid hat
  have HH := Lib.hid h
  clear hat h
  go_enter Try.func22, Try.ntmps22
  go_wp2_with fail
  go_loopw [4, 5] (fun v i wr => ∃ (k : Nat) (y : Value) (ys : List Value), k ≤ N.L.length ∧ i = .int .i64 (k : Int) ∧ y = v ∧ Hid (OwnM wr w.heap.size y (clr n (N.L.take k)) ys ∧ Below w.heap.size w wr ∧
    ∀ (j : Nat) (m : Msg) (u : Value), (clr n (N.L.take k))[j]? = some m → ys[j]? = some u → ∃ i : Nat, N.L[i]? = some m ∧ us[i]? = some u)) (fun _ i _ => N.L.length - (intOf i).toNat)
  case atStart => exact ⟨0, _, [], by omega, rfl, rfl, Lib.hid ⟨OwnM.nil _ _, Below.refl _ _, fun j m u h1 h2 => by simp at h2⟩⟩
  case round =>
    obtain ⟨k, v0, ys, hk, rfl, rfl, HR⟩ := hrel
    have x3 := (below_cells HR.out.2.1 rb 3 hlt).trans c3
    have y3 : wr.frozen? ⟨rb, 3, none⟩ = false := (HR.out.2.1.frozen (p := ⟨rb, 3, none⟩) hlt).trans z3
    obtain ⟨pv, kv, rfl, hv1, hv2⟩ := HR.out.1.shape
    by_cases hkl : k < N.L.length
    · obtain ⟨g, u, rfl, d0, d1, d2, hu, hin⟩ := HA.out k _ (List.getElem?_eq_getElem hkl)
      have HS := Lib.hid (clr_take_succ n N.L k _ (List.getElem?_eq_getElem hkl))
      have HM : Hid (N.L[k]? = some N.L[k]) := Lib.hid (List.getElem?_eq_getElem hkl)
      have HU := Lib.hid hu
      have hle := clr_take_len n N.L k
      generalize N.L[k] = m at *
      have hgl := cell_lt d0
      have d0 := (below_cells HR.out.2.1 g _ hgl).trans d0
      have d1 := (below_cells HR.out.2.1 g _ hgl).trans d1
      have d2 := (below_cells HR.out.2.1 g _ hgl).trans d2
      obtain ⟨pu, cu, rfl, _, _⟩ := hin.1.shape
      generalize hls : clr n (N.L.take k) = l at *
      clear hu hin hgl hls
      by_cases h1 : (m.src : Int) = n
      · have q1 : ((m.src : Int) != n) = false := by simpa using h1
        have HO : Hid (¬ offN n m = true) := Lib.hid (by simp [offN, h1])
        clear h1
        go_wp2_with fail
        go_roundw
        case rel => exact ⟨k + 1, _, ys, by omega, by go_num, rfl, Lib.hid (by rw [HS.out, if_neg HO.out, List.append_nil]; exact HR.out)⟩
        case measure => simp [intOf]; omega
      · have q1 : ((m.src : Int) != n) = true := by simpa using h1
        by_cases h2 : (m.dst : Int) = n
        · have q2 : ((m.dst : Int) != n) = false := by simpa using h2
          have HO : Hid (¬ offN n m = true) := Lib.hid (by simp [offN, h1, h2])
          clear h1 h2
          go_wp2_with fail
          go_roundw
          case rel => exact ⟨k + 1, _, ys, by omega, by go_num, rfl, Lib.hid (by rw [HS.out, if_neg HO.out, List.append_nil]; exact HR.out)⟩
          case measure => simp [intOf]; omega
        · have q2 : ((m.dst : Int) != n) = true := by simpa using h2
          have HO : Hid (offN n m = true) := Lib.hid (by simp [offN, h1, h2])
          clear h1 h2
          obtain ⟨X, hX⟩ : ∃ X, wr.alloc (.cells #[.int .i64 (m.src : Int), .int .i64 (m.dst : Int), .slice pu m.txt.length cu] 41) = X := ⟨_, rfl⟩
          have hbX : Below wr.heap.size wr X := by rw [← hX]; exact (Below.refl _ _).alloc (Nat.le_refl _) _
          have HOM : Hid (OwnM X w.heap.size (.slice pv l.length kv) l ys) := Lib.hid (HR.out.1.keep fun j hj => by
            obtain ⟨cur, hc⟩ := HR.out.1.heap hj
            exact hbX.block j (block_lt hc))
          have HSm : Hid (Sm X (.slice (some ⟨wr.heap.size, 0, none⟩) 1 1) [m] [.slice pu m.txt.length cu]) := Lib.hid (by
            rw [← hX]
            exact Sm.new wr m _ 41)
          have HOne : Hid (∀ x ∈ [Value.slice pu m.txt.length cu], x.oneCell' = true) := Lib.hid (by simp [Value.oneCell'])
          have HLn : Hid (l.length + [m].length ≤ 1099511627776) := Lib.hid (by simp; omega)
          have HBX := Lib.hid (HR.out.2.1.trans (hbX.mono HR.out.2.1.size))
          clear hbX
          go_wp2_with (at_builtin; refine wpList_append_M rfl (.tmp 37) (.tmp 45) rfl w.heap.size (v := .slice pv l.length kv) (u := .slice (some ⟨wr.heap.size, 0, none⟩) 1 1) rfl rfl HOM.out HSm.out HOne.out HLn.out HBX.out.size ?_; intro v' w3 ho3 hg3 ha3; have hb3 := HBX.out.grown hg3 HBX.out.size (fun j hj => HOM.out.low j hj); have HO3 := Lib.hid ho3; have HB3 := Lib.hid hb3; clear ho3 hg3 ha3 hb3)
          go_roundw
          case rel =>
            refine ⟨k + 1, _, ys ++ [.slice pu m.txt.length cu], by omega, by go_num, rfl, Lib.hid ?_⟩
            rw [HS.out, if_pos HO.out]
            refine ⟨HO3.out, HB3.out, fun j m' u' h1 h2 => ?_⟩
            have hyl := HR.out.1.1
            by_cases hj : j < l.length
            · rw [List.getElem?_append_left hj] at h1
              rw [List.getElem?_append_left (by rw [hyl]; exact hj)] at h2
              exact HR.out.2.2 j m' u' h1 h2
            · rw [List.getElem?_append_right (by omega)] at h1
              rw [List.getElem?_append_right (by rw [hyl]; omega), hyl] at h2
              cases hq : j - l.length with
              | zero =>
                rw [hq] at h1 h2
                obtain rfl : m = m' := by simpa using h1
                obtain rfl : Value.slice pu m.txt.length cu = u' := by simpa using h2
                exact ⟨k, HM.out, HU.out⟩
              | succ q =>
                rw [hq] at h1
                simp at h1
          case measure => simp [intOf]; omega
    · have hke : k = N.L.length := by omega
      subst hke
      rw [List.take_length] at HR ⊢
      have HF := Lib.hid (HH.out.newRow HR.out.2.1 HR.out.1 HR.out.2.2 (HH.out.wf.clear_ n))
      go_wp2_with fail
      go_end0
      exact ⟨rfl, ⟨_, _, HF.out.1⟩, HF.out.2⟩
end Go.Proofs.Ytiffoafjgcjgoaa
