/-
  A net told plainly: the messages in the order in which they came; a link's bag; the message that a pick means; what is taken out, cleared, counted.
-/
import Derived.Test.YtiffoafjgcjgoaaRows
namespace Go.Proofs.Ytiffoafjgcjgoaa

structure Msg where
  src : Nat
  dst : Nat
  txt : List UInt8

def onl (f t : Nat) (m : Msg) : Bool := decide (m.src = f) && decide (m.dst = t)
theorem onl_iff {f t : Nat} {m : Msg} : onl f t m = true ↔ m.src = f ∧ m.dst = t := by simp [onl]
theorem onl_false {f t : Nat} {m : Msg} : onl f t m = false ↔ ¬ (m.src = f ∧ m.dst = t) := by rw [← onl_iff]; cases onl f t m <;> simp
/-- A link's bag. -/
def bag (L : List Msg) (f t : Nat) : List (List UInt8) := (L.filter (onl f t)).map Msg.txt
def cnt (L : List Msg) (f t : Nat) : Nat := (bag L f t).length
theorem bag_nil (f t : Nat) : bag [] f t = [] := rfl
theorem bag_cons (m : Msg) (L : List Msg) (f t : Nat) : bag (m :: L) f t = if onl f t m = true then m.txt :: bag L f t else bag L f t := by
  unfold bag
  rw [List.filter_cons]
  split <;> rfl
theorem bag_append (L M : List Msg) (f t : Nat) : bag (L ++ M) f t = bag L f t ++ bag M f t := by simp [bag]
theorem bag_snoc (L : List Msg) (m : Msg) (f t : Nat) : bag (L ++ [m]) f t = if onl f t m = true then bag L f t ++ [m.txt] else bag L f t := by
  rw [bag_append, bag_cons, bag_nil]
  split <;> simp
theorem cnt_snoc (L : List Msg) (m : Msg) (f t : Nat) : cnt (L ++ [m]) f t = cnt L f t + if onl f t m = true then 1 else 0 := by
  unfold cnt
  rw [bag_snoc]
  split <;> simp
theorem cnt_take_succ (L : List Msg) (k : Nat) (m : Msg) (h : L[k]? = some m) (f t : Nat) : cnt (L.take (k + 1)) f t = cnt (L.take k) f t + if onl f t m = true then 1 else 0 := by
  rw [List.take_add_one, h]
  exact cnt_snoc _ _ _ _
theorem cnt_take_le (L : List Msg) (k f t : Nat) : cnt (L.take k) f t ≤ cnt L f t := by
  have h : bag L f t = bag (L.take k) f t ++ bag (L.drop k) f t := by rw [← bag_append, List.take_append_drop]
  unfold cnt
  rw [h, List.length_append]
  omega
theorem cnt_le (L : List Msg) (f t : Nat) : cnt L f t ≤ L.length := by
  unfold cnt bag
  rw [List.length_map]
  exact List.length_filter_le _ _

/-- The place of a link's k-th message. -/
def pos (f t : Nat) : Nat → List Msg → Nat
  | _, [] => 0
  | k, m :: r => if onl f t m = true then (match k with | 0 => 0 | k + 1 => pos f t k r + 1) else pos f t k r + 1
theorem pos_lt : ∀ (L : List Msg) (f t k : Nat), k < cnt L f t → pos f t k L < L.length
  | [], _, _, _, h => by simp [cnt, bag] at h
  | m :: r, f, t, k, h => by
    unfold cnt at h
    rw [bag_cons] at h
    unfold pos
    by_cases hm : onl f t m = true
    · rw [if_pos hm] at h ⊢
      cases k with
      | zero => simp
      | succ k =>
        have := pos_lt r f t k (by simpa [cnt] using h)
        simp only [List.length_cons]
        omega
    · rw [if_neg hm] at h ⊢
      have := pos_lt r f t k h
      simp only [List.length_cons]
      omega
theorem pos_at : ∀ (L : List Msg) (f t k : Nat) (s : List UInt8), (bag L f t)[k]? = some s → L[pos f t k L]? = some ⟨f, t, s⟩
  | [], _, _, _, _, h => by simp [bag] at h
  | m :: r, f, t, k, s, h => by
    rw [bag_cons] at h
    unfold pos
    by_cases hm : onl f t m = true
    · rw [if_pos hm] at h ⊢
      cases k with
      | zero =>
        obtain ⟨h1, h2⟩ := onl_iff.1 hm
        obtain rfl : m.txt = s := by simpa using h
        subst h1 h2
        rfl
      | succ k =>
        have := pos_at r f t k s (by simpa using h)
        simpa using this
    · rw [if_neg hm] at h ⊢
      have := pos_at r f t k s h
      simpa using this
theorem pos_is : ∀ (L : List Msg) (f t k i : Nat) (m : Msg), L[i]? = some m → onl f t m = true → cnt (L.take i) f t = k → pos f t k L = i
  | [], _, _, _, _, _, h, _, _ => by simp at h
  | x :: r, f, t, k, 0, m, h, hm, hk => by
    obtain rfl : x = m := by simpa using h
    obtain rfl : k = 0 := hk.symm
    unfold pos
    rw [if_pos hm]
  | x :: r, f, t, k, i + 1, m, h, hm, hk => by
    rw [List.take_succ_cons] at hk
    unfold cnt at hk
    rw [bag_cons] at hk
    unfold pos
    by_cases hx : onl f t x = true
    · rw [if_pos hx] at hk ⊢
      rw [List.length_cons] at hk
      cases k with
      | zero => omega
      | succ k =>
        show pos f t k r + 1 = i + 1
        rw [pos_is r f t k i m (by simpa using h) hm (by unfold cnt; omega)]
    · rw [if_neg hx] at hk ⊢
      rw [pos_is r f t k i m (by simpa using h) hm hk]

/-- What is left when a link's k-th message is taken out. -/
def rem (f t k : Nat) (L : List Msg) : List Msg := L.eraseIdx (pos f t k L)
theorem rem_eq (f t k : Nat) (L : List Msg) : rem f t k L = L.take (pos f t k L) ++ L.drop (pos f t k L + 1) := List.eraseIdx_eq_take_drop_succ _ _
theorem rem_bag : ∀ (L : List Msg) (f t k f' t' : Nat), k < cnt L f t → bag (rem f t k L) f' t' = if f' = f ∧ t' = t then (bag L f t).eraseIdx k else bag L f' t'
  | [], _, _, _, _, _, h => by simp [cnt, bag] at h
  | m :: r, f, t, k, f', t', h => by
    unfold cnt at h
    rw [bag_cons] at h
    unfold rem pos
    by_cases hm : onl f t m = true
    · rw [if_pos hm] at h ⊢
      obtain ⟨h1, h2⟩ := onl_iff.1 hm
      cases k with
      | zero =>
        rw [List.eraseIdx_cons_zero]
        split
        · rename_i he
          obtain ⟨rfl, rfl⟩ := he
          rw [bag_cons, if_pos hm, List.eraseIdx_cons_zero]
        · rename_i he
          rw [bag_cons, if_neg]
          intro hc
          obtain ⟨h3, h4⟩ := onl_iff.1 hc
          exact he ⟨h3.symm.trans h1, h4.symm.trans h2⟩
      | succ k =>
        rw [List.eraseIdx_cons_succ, bag_cons, bag_cons, bag_cons]
        have ih := rem_bag r f t k f' t' (by simpa [cnt] using h)
        unfold rem at ih
        rw [ih]
        split
        · rename_i he
          split
          · rename_i hl
            obtain ⟨rfl, rfl⟩ := hl
            rw [List.eraseIdx_cons_succ]
          · rfl
        · rename_i he
          split
          · rename_i hl
            obtain ⟨rfl, rfl⟩ := hl
            exact absurd hm he
          · rfl
    · rw [if_neg hm] at h ⊢
      rw [List.eraseIdx_cons_succ, bag_cons, bag_cons, bag_cons]
      have ih := rem_bag r f t k f' t' h
      unfold rem at ih
      rw [ih]
      split
      · rename_i he
        split
        · rename_i hl
          obtain ⟨rfl, rfl⟩ := hl
          exact absurd he hm
        · rfl
      · rename_i he
        split
        · rename_i hl
          obtain ⟨rfl, rfl⟩ := hl
          rfl
        · rfl
theorem rem_len (f t k : Nat) (L : List Msg) (h : k < cnt L f t) : (rem f t k L).length + 1 = L.length := by
  have := pos_lt L f t k h
  unfold rem
  rw [List.length_eraseIdx_of_lt this]
  omega
theorem rem_mem {f t k : Nat} {L : List Msg} {m : Msg} (h : m ∈ rem f t k L) : m ∈ L := List.mem_of_mem_eraseIdx h

/-- What is left when a node's links are cleared. -/
def clr (n : Int) (L : List Msg) : List Msg := L.filter fun m => !(decide ((m.src : Int) = n)) && !(decide ((m.dst : Int) = n))
theorem clr_bag (n : Int) : ∀ (L : List Msg) (f t : Nat), bag (clr n L) f t = if (f : Int) = n ∨ (t : Int) = n then [] else bag L f t
  | [], _, _ => by simp [clr, bag]
  | m :: r, f, t => by
    have ih := clr_bag n r f t
    unfold clr at *
    rw [List.filter_cons]
    by_cases hn : (!(decide ((m.src : Int) = n)) && !(decide ((m.dst : Int) = n))) = true
    · rw [if_pos hn, bag_cons, bag_cons, ih]
      simp at hn
      by_cases hm : onl f t m = true
      · obtain ⟨h1, h2⟩ := onl_iff.1 hm
        rw [if_pos hm, if_pos hm, if_neg (by rw [← h1, ← h2]; rintro (h | h); exact hn.1 h; exact hn.2 h), if_neg (by rw [← h1, ← h2]; rintro (h | h); exact hn.1 h; exact hn.2 h)]
      · rw [if_neg hm, if_neg hm]
    · rw [if_neg hn, ih, bag_cons]
      by_cases hm : onl f t m = true
      · obtain ⟨h1, h2⟩ := onl_iff.1 hm
        have h3 : (f : Int) = n ∨ (t : Int) = n := by
          rw [← h1, ← h2]
          simp at hn
          rcases Decidable.em ((m.src : Int) = n) with h | h
          · exact .inl h
          · exact .inr (hn h)
        rw [if_pos h3, if_pos h3]
      · rw [if_neg hm]
theorem clr_mem {n : Int} {L : List Msg} {m : Msg} (h : m ∈ clr n L) : m ∈ L := (List.mem_filter.1 h).1

/-! ### all links -/
def lk (L : List Msg) (f t : Nat) : List (Nat × Nat × Nat) := if cnt L f t = 0 then [] else [(f, t, cnt L f t)]
def row (L : List Msg) (f k : Nat) : List (Nat × Nat × Nat) := (List.range k).flatMap (lk L f)
def lks (L : List Msg) (n k : Nat) : List (Nat × Nat × Nat) := (List.range k).flatMap fun f => row L f n
def tot (l : List (Nat × Nat × Nat)) : Nat := (l.map (·.2.2)).sum
theorem row_succ (L : List Msg) (f k : Nat) : row L f (k + 1) = row L f k ++ lk L f k := by simp [row, List.range_succ]
theorem lks_succ (L : List Msg) (n k : Nat) : lks L n (k + 1) = lks L n k ++ row L k n := by simp [lks, List.range_succ]
theorem lk_len (L : List Msg) (f t : Nat) : (lk L f t).length ≤ 1 := by unfold lk; split <;> simp
theorem row_len (L : List Msg) (f : Nat) : ∀ k, (row L f k).length ≤ k
  | 0 => by simp [row]
  | k + 1 => by
    rw [row_succ, List.length_append]
    have := row_len L f k
    have := lk_len L f k
    omega
theorem lks_len (L : List Msg) (n : Nat) : ∀ k, (lks L n k).length ≤ k * n
  | 0 => by simp [lks]
  | k + 1 => by
    rw [lks_succ, List.length_append, Nat.succ_mul]
    have := lks_len L n k
    have := row_len L k n
    omega
theorem tot_append (a b : List (Nat × Nat × Nat)) : tot (a ++ b) = tot a + tot b := by simp [tot]
theorem tot_lk (L : List Msg) (f t : Nat) : tot (lk L f t) = cnt L f t := by
  unfold lk tot
  split
  · rename_i h; rw [h]; rfl
  · simp
theorem tot_row_cons (m : Msg) (L : List Msg) (f : Nat) : ∀ k, tot (row (m :: L) f k) = tot (row L f k) + if m.src = f ∧ m.dst < k then 1 else 0
  | 0 => by simp [row, tot]
  | k + 1 => by
    rw [row_succ, row_succ, tot_append, tot_append, tot_row_cons m L f k, tot_lk, tot_lk]
    have h : cnt (m :: L) f k = cnt L f k + if onl f k m = true then 1 else 0 := by
      unfold cnt
      rw [bag_cons]
      split <;> simp
    rw [h]
    have h2 : (onl f k m = true) = (m.src = f ∧ m.dst = k) := propext onl_iff
    simp only [h2]
    by_cases h3 : m.src = f
    · simp only [h3, true_and]
      split <;> split <;> split <;> omega
    · simp [h3]
theorem tot_lks_cons (m : Msg) (L : List Msg) (n : Nat) : ∀ k, tot (lks (m :: L) n k) = tot (lks L n k) + if m.src < k ∧ m.dst < n then 1 else 0
  | 0 => by simp [lks, tot]
  | k + 1 => by
    rw [lks_succ, lks_succ, tot_append, tot_append, tot_lks_cons m L n k, tot_row_cons]
    by_cases h3 : m.dst < n
    · simp only [h3, and_true]
      split <;> split <;> split <;> omega
    · simp [h3]
theorem tot_row_nil (f : Nat) : ∀ k, tot (row [] f k) = 0
  | 0 => rfl
  | k + 1 => by rw [row_succ, tot_append, tot_row_nil f k, tot_lk]; rfl
theorem tot_lks_nil (n : Nat) : ∀ k, tot (lks [] n k) = 0
  | 0 => rfl
  | k + 1 => by rw [lks_succ, tot_append, tot_lks_nil n k, tot_row_nil]
theorem tot_all (n : Nat) : ∀ (L : List Msg), (∀ m ∈ L, m.src < n ∧ m.dst < n) → tot (lks L n n) = L.length
  | [], _ => tot_lks_nil n n
  | m :: r, h => by
    rw [tot_lks_cons, tot_all n r (fun x hx => h x (List.mem_cons_of_mem m hx)), if_pos (h m (by simp))]
    rfl
theorem tot_row_le (L : List Msg) (f b : Nat) (h : ∀ f t, cnt L f t ≤ b) : ∀ k, tot (row L f k) ≤ k * b
  | 0 => by simp [row, tot]
  | k + 1 => by
    rw [row_succ, tot_append, tot_lk, Nat.succ_mul]
    have := tot_row_le L f b h k
    have := h f k
    omega
theorem tot_lks_le (L : List Msg) (n b : Nat) (h : ∀ f t, cnt L f t ≤ b) : ∀ k, tot (lks L n k) ≤ k * (n * b)
  | 0 => by simp [lks, tot]
  | k + 1 => by
    rw [lks_succ, tot_append, Nat.succ_mul]
    have := tot_lks_le L n b h k
    have := tot_row_le L k b h n
    omega

/-! ### a net -/
structure PNet where
  nodes : Nat
  bound : Nat
  now : Nat
  L : List Msg
structure Wf (N : PNet) : Prop where
  n1 : 1 ≤ N.nodes
  n2 : N.nodes ≤ 16
  b1 : 1 ≤ N.bound
  b2 : N.bound ≤ 65536
  inn : ∀ m ∈ N.L, m.src < N.nodes ∧ m.dst < N.nodes
  txt : ∀ m ∈ N.L, m.txt.length ≤ 1048576
  cnt : ∀ f t, cnt N.L f t ≤ N.bound
theorem Wf.len {N : PNet} (h : Wf N) : N.L.length ≤ 16777216 := by
  rw [← tot_all N.nodes N.L h.inn]
  refine Nat.le_trans (tot_lks_le N.L N.nodes N.bound h.cnt N.nodes) ?_
  have h2 := h.n2
  have h3 := h.b2
  calc N.nodes * (N.nodes * N.bound) ≤ 16 * (16 * 65536) := Nat.mul_le_mul h2 (Nat.mul_le_mul h2 h3)
    _ = 16777216 := by decide
theorem Wf.tot {N : PNet} (h : Wf N) : tot (lks N.L N.nodes N.nodes) = N.L.length := tot_all N.nodes N.L h.inn

/-- Is (f, t) a link of the net? -/
def isLink (N : PNet) (f t : Int) : Bool := decide (0 ≤ f) && decide (f < (N.nodes : Int)) && (decide (0 ≤ t) && decide (t < (N.nodes : Int)))
theorem isLink_iff {N : PNet} {f t : Int} : isLink N f t = true ↔ (0 ≤ f ∧ f < N.nodes) ∧ 0 ≤ t ∧ t < N.nodes := by simp [isLink]
/-- May a message be laid in? -/
def may (N : PNet) (f t : Int) : Bool := isLink N f t && decide (cnt N.L f.toNat t.toNat < N.bound)
/-- A message is laid in, if it may. -/
def lay1 (N : PNet) (f t : Int) (s : List UInt8) : PNet := if may N f t = true then { N with L := N.L ++ [⟨f.toNat, t.toNat, s⟩] } else N
def laid1 (N : PNet) (f t : Int) : Nat := if may N f t = true then 1 else 0
theorem may_iff {N : PNet} {f t : Int} : may N f t = true ↔ isLink N f t = true ∧ cnt N.L f.toNat t.toNat < N.bound := by simp [may]
theorem Wf.lay1 {N : PNet} (h : Wf N) (f t : Int) (s : List UInt8) (hs : s.length ≤ 1048576) : Wf (lay1 N f t s) := by
  unfold Go.Proofs.Ytiffoafjgcjgoaa.lay1
  split
  · rename_i hm
    obtain ⟨h1, h2⟩ := may_iff.1 hm
    obtain ⟨h3, h4⟩ := isLink_iff.1 h1
    refine ⟨h.n1, h.n2, h.b1, h.b2, fun m hm => ?_, fun m hm => ?_, fun f' t' => ?_⟩
    · rcases List.mem_append.1 hm with hm | hm
      · exact h.inn m hm
      · obtain rfl : m = _ := by simpa using hm
        show f.toNat < N.nodes ∧ t.toNat < N.nodes
        omega
    · rcases List.mem_append.1 hm with hm | hm
      · exact h.txt m hm
      · obtain rfl : m = _ := by simpa using hm
        exact hs
    · show Go.Proofs.Ytiffoafjgcjgoaa.cnt (N.L ++ [_]) f' t' ≤ N.bound
      rw [cnt_snoc]
      split
      · rename_i ho
        obtain ⟨e1, e2⟩ := onl_iff.1 ho
        simp only at e1 e2
        subst e1 e2
        omega
      · exact h.cnt f' t'
  · exact h
theorem lay1_nodes (N : PNet) (f t : Int) (s : List UInt8) : (lay1 N f t s).nodes = N.nodes := by unfold lay1; split <;> rfl
theorem lay1_bound (N : PNet) (f t : Int) (s : List UInt8) : (lay1 N f t s).bound = N.bound := by unfold lay1; split <;> rfl
theorem lay1_now (N : PNet) (f t : Int) (s : List UInt8) : (lay1 N f t s).now = N.now := by unfold lay1; split <;> rfl
/-- Many, in order. -/
def sends (f : Int) (s : List UInt8) : PNet → List Int → PNet
  | N, [] => N
  | N, t :: r => sends f s (lay1 N f t s) r
def nsent (f : Int) (s : List UInt8) : PNet → List Int → Nat
  | _, [] => 0
  | N, t :: r => laid1 N f t + nsent f s (lay1 N f t s) r
theorem sends_snoc (f : Int) (s : List UInt8) : ∀ (l : List Int) (N : PNet) (t : Int), sends f s N (l ++ [t]) = lay1 (sends f s N l) f t s
  | [], _, _ => rfl
  | x :: r, N, t => sends_snoc f s r (lay1 N f x s) t
theorem nsent_snoc (f : Int) (s : List UInt8) : ∀ (l : List Int) (N : PNet) (t : Int), nsent f s N (l ++ [t]) = nsent f s N l + laid1 (sends f s N l) f t
  | [], N, t => by simp [nsent, sends]
  | x :: r, N, t => by
    show laid1 N f x + nsent f s (lay1 N f x s) (r ++ [t]) = laid1 N f x + nsent f s (lay1 N f x s) r + laid1 (sends f s (lay1 N f x s) r) f t
    rw [nsent_snoc f s r]
    omega
theorem nsent_le (f : Int) (s : List UInt8) : ∀ (l : List Int) (N : PNet), nsent f s N l ≤ l.length
  | [], _ => Nat.le_refl _
  | x :: r, N => by
    have h1 := nsent_le f s r (lay1 N f x s)
    have h2 : laid1 N f x ≤ 1 := by unfold laid1; split <;> omega
    show laid1 N f x + nsent f s (lay1 N f x s) r ≤ r.length + 1
    omega
theorem Wf.sends (f : Int) (s : List UInt8) (hs : s.length ≤ 1048576) : ∀ (l : List Int) (N : PNet), Wf N → Wf (sends f s N l)
  | [], _, h => h
  | t :: r, _, h => Wf.sends f s hs r _ (h.lay1 f t s hs)
theorem sends_nodes (f : Int) (s : List UInt8) : ∀ (l : List Int) (N : PNet), (sends f s N l).nodes = N.nodes
  | [], _ => rfl
  | t :: r, N => (sends_nodes f s r (lay1 N f t s)).trans (lay1_nodes N f t s)
theorem sends_bound (f : Int) (s : List UInt8) : ∀ (l : List Int) (N : PNet), (sends f s N l).bound = N.bound
  | [], _ => rfl
  | t :: r, N => (sends_bound f s r (lay1 N f t s)).trans (lay1_bound N f t s)
theorem sends_now (f : Int) (s : List UInt8) : ∀ (l : List Int) (N : PNet), (sends f s N l).now = N.now
  | [], _ => rfl
  | t :: r, N => (sends_now f s r (lay1 N f t s)).trans (lay1_now N f t s)
theorem lay1_len (N : PNet) (f t : Int) (s : List UInt8) : (lay1 N f t s).L.length = N.L.length + laid1 N f t := by
  unfold lay1 laid1
  split <;> simp
theorem sends_len (f : Int) (s : List UInt8) : ∀ (l : List Int) (N : PNet), (sends f s N l).L.length = N.L.length + nsent f s N l
  | [], _ => rfl
  | t :: r, N => by
    show (Go.Proofs.Ytiffoafjgcjgoaa.sends f s (lay1 N f t s) r).L.length = N.L.length + (laid1 N f t + nsent f s (lay1 N f t s) r)
    rw [sends_len f s r, lay1_len]
    omega

/-- Has the link a message? -/
def has (N : PNet) (f t : Int) : Bool := isLink N f t && decide (0 < cnt N.L f.toNat t.toNat)
theorem has_iff {N : PNet} {f t : Int} : has N f t = true ↔ isLink N f t = true ∧ 0 < cnt N.L f.toNat t.toNat := by simp [has]
/-- The number of the message that a pick means, of c. -/
def pick (p : Int) (c : Nat) : Nat := p.toNat % c
theorem pick_lt {p : Int} {c : Nat} (h : 0 < c) : pick p c < c := Nat.mod_lt _ h
def kth (N : PNet) (f t p : Int) : Nat := pick p (cnt N.L f.toNat t.toNat)
def text (N : PNet) (f t p : Int) : List UInt8 := (bag N.L f.toNat t.toNat).getD (kth N f t p) []
def take1 (N : PNet) (f t p : Int) : PNet := if has N f t = true then { N with L := rem f.toNat t.toNat (kth N f t p) N.L } else N
theorem kth_lt {N : PNet} {f t : Int} (h : has N f t = true) (p : Int) : kth N f t p < cnt N.L f.toNat t.toNat := pick_lt (has_iff.1 h).2
theorem text_at {N : PNet} {f t : Int} (h : has N f t = true) (p : Int) : (bag N.L f.toNat t.toNat)[kth N f t p]? = some (text N f t p) := by
  have := kth_lt h p
  unfold cnt at this
  unfold text
  rw [List.getD_eq_getElem?_getD, List.getElem?_eq_getElem this]
  rfl
theorem text_mem {N : PNet} {f t : Int} (h : has N f t = true) (p : Int) : ∃ m ∈ N.L, m.txt = text N f t p :=
  ⟨_, List.mem_of_getElem? (pos_at _ _ _ _ _ (text_at h p)), rfl⟩
theorem Wf.take1 {N : PNet} (h : Wf N) (f t p : Int) : Wf (take1 N f t p) := by
  unfold Go.Proofs.Ytiffoafjgcjgoaa.take1
  split
  · rename_i hh
    have hk := kth_lt hh p
    refine ⟨h.n1, h.n2, h.b1, h.b2, fun m hm => h.inn m (rem_mem hm), fun m hm => h.txt m (rem_mem hm), fun f' t' => ?_⟩
    show (bag (rem f.toNat t.toNat (kth N f t p) N.L) f' t').length ≤ N.bound
    rw [rem_bag _ _ _ _ _ _ hk]
    split
    · have h1 := h.cnt f.toNat t.toNat
      have h2 := hk
      unfold Go.Proofs.Ytiffoafjgcjgoaa.cnt at h1 h2
      rw [List.length_eraseIdx_of_lt h2]
      omega
    · exact h.cnt f' t'
  · exact h
theorem take1_len {N : PNet} {f t : Int} (h : has N f t = true) (p : Int) : (take1 N f t p).L.length + 1 = N.L.length := by
  unfold take1
  rw [if_pos h]
  exact rem_len _ _ _ _ (kth_lt h p)
/-- A message is laid in once more. -/
def dbl (N : PNet) (f t p : Int) : PNet := if has N f t = true then lay1 N f t (text N f t p) else N
def dbld (N : PNet) (f t : Int) : Bool := has N f t && may N f t
theorem Wf.text {N : PNet} (h : Wf N) {f t : Int} (hh : has N f t = true) (p : Int) : (text N f t p).length ≤ 1048576 := by
  obtain ⟨m, hm, e⟩ := text_mem hh p
  rw [← e]
  exact h.txt m hm
theorem Wf.dbl {N : PNet} (h : Wf N) (f t p : Int) : Wf (dbl N f t p) := by
  unfold Go.Proofs.Ytiffoafjgcjgoaa.dbl
  split
  · rename_i hh
    exact h.lay1 f t _ (h.text hh p)
  · exact h
def clear_ (N : PNet) (n : Int) : PNet := { N with L := clr n N.L }
theorem Wf.clear_ {N : PNet} (h : Wf N) (n : Int) : Wf (clear_ N n) := by
  refine ⟨h.n1, h.n2, h.b1, h.b2, fun m hm => h.inn m (clr_mem hm), fun m hm => h.txt m (clr_mem hm), fun f' t' => ?_⟩
  show (bag (clr n N.L) f' t').length ≤ N.bound
  rw [clr_bag]
  split
  · exact Nat.zero_le _
  · exact h.cnt f' t'
def tick (N : PNet) : PNet := { N with now := N.now + 1 }
theorem Wf.tick {N : PNet} (h : Wf N) : Wf (tick N) := ⟨h.n1, h.n2, h.b1, h.b2, h.inn, h.txt, h.cnt⟩
end Go.Proofs.Ytiffoafjgcjgoaa
