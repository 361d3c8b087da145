import Derived.Below
import Derived.Laws.OwnMore
import Derived.Deep.Draws
import Derived.Deep.AppendLies
import Derived.Laws.Rows
import Derived.Lib.Hide
import Derived.OwnWalk
import Derived.RegionTactic
section
namespace Go.Proofs
open Go.RowKit
set_option linter.unusedVariables false
set_option linter.unusedSimpArgs false

/-! ### A block that is known whole -/
/-- Block g is just the cells cs, of element type t; none of them is frozen. -/
def Blk (w : World) (g : Nat) (t : TypeId) (cs : Array Value) : Prop := w.heap[g]? = some (.cells cs t (0, 0))
theorem Blk.lt {w : World} {g : Nat} {t : TypeId} {cs : Array Value} (h : Blk w g t cs) : g < w.heap.size := (Array.getElem?_eq_some_iff.1 h).1
theorem Blk.cell {w : World} {g : Nat} {t : TypeId} {cs : Array Value} (h : Blk w g t cs) (i : Nat) : w.cell? ⟨g, i, none⟩ = cs[i]? := cell_of_row w g i cs t (0, 0) h
theorem Blk.frozen {w : World} {g : Nat} {t : TypeId} {cs : Array Value} (h : Blk w g t cs) (i : Nat) : w.frozen? ⟨g, i, none⟩ = false := by
  unfold Blk at h
  simp [World.frozen?, h]
theorem Blk.new (w : World) (t : TypeId) (cs : Array Value) : Blk (w.alloc (.cells cs t)) w.heap.size t cs := heap_alloc_new w _
theorem Blk.same {w w' : World} {g : Nat} {t : TypeId} {cs : Array Value} (h : Blk w g t cs) (e : w'.heap[g]? = w.heap[g]?) : Blk w' g t cs := e.trans h
theorem Blk.alloc {w : World} {g : Nat} {t : TypeId} {cs : Array Value} (h : Blk w g t cs) (o : Obj) : Blk (w.alloc o) g t cs := h.same (Below.heap_alloc w o g h.lt)
theorem Blk.drewN {w : World} {g : Nat} {t : TypeId} {cs : Array Value} (h : Blk w g t cs) (n : Nat) : Blk (w.drewN n) g t cs := h
theorem Blk.drew {w : World} {g : Nat} {t : TypeId} {cs : Array Value} (h : Blk w g t cs) : Blk w.drew g t cs := h
theorem Blk.set_ {w : World} {g : Nat} {t : TypeId} {cs : Array Value} (h : Blk w g t cs) (i : Nat) (u : Value) : Blk (w.setCell ⟨g, i, none⟩ u) g t (cs.setIfInBounds i u) := by
  unfold Blk at h ⊢
  simp [World.setCell, Array.getElem?_modify, h]
theorem Blk.far {w : World} {g : Nat} {t : TypeId} {cs : Array Value} (h : Blk w g t cs) {p : Addr} (hp : g ≠ p.block) (u : Value) : Blk (w.setCell p u) g t cs := h.same (Below.heap_setCell w p u g hp)
theorem Blk.ty {w : World} {g g' : Nat} {t t' : TypeId} {cs cs' : Array Value} (h : Blk w g t cs) (h' : Blk w g' t' cs') (hne : t ≠ t') : g ≠ g' := by
  rintro rfl
  unfold Blk at h h'
  rw [h] at h'
  injection h' with h'
  injection h' with _ ht
  exact hne ht

/-! ### What has turned: some blocks of those that were there, and new ones -/
/-- Of the blocks that were there at most those in S have turned; the streams are as they were. -/
structure Chg (S : List Nat) (w w' : World) : Prop where
  os : w'.os = w.os
  tape : w'.tape = w.tape
  output : w'.output = w.output
  size : w.heap.size ≤ w'.heap.size
  block : ∀ k, k < w.heap.size → k ∉ S → w'.heap[k]? = w.heap[k]?
theorem Chg.refl (S : List Nat) (w : World) : Chg S w w := ⟨rfl, rfl, rfl, Nat.le_refl _, fun _ _ _ => rfl⟩
theorem Chg.trans {S S' : List Nat} {a b c : World} (h : Chg S a b) (k : Chg S' b c) (hs : ∀ k ∈ S', k ∈ S ∨ a.heap.size ≤ k) : Chg S a c :=
  ⟨k.os.trans h.os, k.tape.trans h.tape, k.output.trans h.output, Nat.le_trans h.size k.size, fun i hi hn =>
    (k.block i (Nat.lt_of_lt_of_le hi h.size) (fun hm => by
      rcases hs i hm with h1 | h1
      · exact hn h1
      · omega)).trans (h.block i hi hn)⟩
theorem Chg.then {S : List Nat} {a b c : World} (h : Chg S a b) (k : Chg [] b c) : Chg S a c := h.trans k (fun _ hk => by cases hk)
theorem Chg.mono {S S' : List Nat} {a b : World} (h : Chg S a b) (hs : ∀ k ∈ S, k ∈ S' ∨ a.heap.size ≤ k) : Chg S' a b := (Chg.refl S' a).trans h hs
theorem Chg.any {S : List Nat} {a b : World} (h : Chg [] a b) : Chg S a b := h.mono (fun _ hk => by cases hk)
theorem Chg.drew {S : List Nat} {a b : World} (h : Chg S a b) : Chg S a b.drew := ⟨h.os, h.tape, h.output, h.size, h.block⟩
theorem Chg.drewN {S : List Nat} {a b : World} (h : Chg S a b) (n : Nat) : Chg S a (b.drewN n) := ⟨h.os, h.tape, h.output, h.size, h.block⟩
theorem Chg.alloc {S : List Nat} {a b : World} (h : Chg S a b) (o : Obj) : Chg S a (b.alloc o) :=
  h.then ⟨rfl, rfl, rfl, by simp, fun k hk _ => Below.heap_alloc _ _ _ hk⟩
theorem Chg.setCell {S : List Nat} {a b : World} (h : Chg S a b) {p : Addr} (hp : p.block ∈ S ∨ a.heap.size ≤ p.block) (u : Value) : Chg S a (b.setCell p u) :=
  h.trans (S' := [p.block]) ⟨rfl, rfl, rfl, by simp [World.setCell], fun k hk hn => Below.heap_setCell _ _ _ _ (by simpa using hn)⟩ (fun k hk => by simp at hk; subst hk; exact hp)
theorem Chg.grown {S : List Nat} {a b c : World} {row : Option Nat} (h : Chg S a b) (hg : b.grownBy c row) (hr : ∀ k, row = some k → k ∈ S ∨ a.heap.size ≤ k) : Chg S a c :=
  h.trans (S' := row.toList) ⟨hg.os, hg.tape, hg.output, hg.size, fun k hk hn => hg.block k hk (fun e => hn (by simp [← e]))⟩ (fun k hk => hr k (by simpa using hk))
theorem Chg.below {S : List Nat} {B : Nat} {a b : World} (h : Chg S a b) (hs : ∀ k ∈ S, B ≤ k) (hB : B ≤ a.heap.size) : Below B a b :=
  ⟨h.os, h.tape, h.output, h.size, fun k hk => h.block k (by omega) (fun hm => by have := hs k hm; omega)⟩
theorem Chg.of_below {a b : World} (h : Below a.heap.size a b) : Chg [] a b := ⟨h.os, h.tape, h.output, h.size, fun k hk _ => h.block k hk⟩
theorem Chg.to_below {a b : World} (h : Chg [] a b) : Below a.heap.size a b := h.below (fun _ hk => by cases hk) (Nat.le_refl _)
theorem Chg.cell {S : List Nat} {a b : World} (h : Chg S a b) {p : Addr} (hp : p.block < a.heap.size) (hn : p.block ∉ S) : b.cell? p = a.cell? p := World.cell?_of_block (h.block p.block hp hn)
theorem Chg.frozen {S : List Nat} {a b : World} (h : Chg S a b) {p : Addr} (hp : p.block < a.heap.size) (hn : p.block ∉ S) : b.frozen? p = a.frozen? p := World.frozen?_of_block (h.block p.block hp hn)
theorem Blk.chg {S : List Nat} {w w' : World} {g : Nat} {t : TypeId} {cs : Array Value} (h : Blk w g t cs) (hc : Chg S w w') (hn : g ∉ S) : Blk w' g t cs := h.same (hc.block g h.lt hn)

/-! ### A row: a slice whose cells are known, and of whose spare room nothing is -/
/-- The slice v (of n elements of type e, size cells each) reads as the cells xs; all that its capacity reaches lies in its block, from the block's head on. -/
def Row (w : World) (e : TypeId) (size : Nat) (v : Value) (n : Nat) (xs : List Value) : Prop :=
  xs.length = n * size ∧ ((v = .slice none 0 0 ∧ n = 0) ∨
    ∃ g cap cur, v = .slice (some ⟨g, 0, none⟩) n cap ∧ Blk w g e cur ∧ n ≤ cap ∧ cap ≤ maxLen ∧ cap * size ≤ cur.size ∧ cur.toList.take (n * size) = xs)
/-- The block of a slice, if it has one. -/
def foot (v : Value) : List Nat := v.ownBlock.toList
theorem foot_nil (n c : Nat) : foot (.slice none n c) = [] := rfl
theorem foot_some (a : Addr) (n c : Nat) : foot (.slice (some a) n c) = [a.block] := rfl
theorem Row.nil (w : World) (e : TypeId) (size : Nat) : Row w e size (.slice none 0 0) 0 [] := ⟨by simp, .inl ⟨rfl, rfl⟩⟩
theorem Row.of_own {w : World} {base : Nat} {e : TypeId} {size : Nat} {v : Value} {n : Nat} {xs : List Value} (h : w.ownsRow base e size v n xs) : Row w e size v n xs := by
  refine ⟨h.1, ?_⟩
  rcases h.2 with h0 | ⟨g, cap, cur, hv, _, hg, hn, hm, hs, ht⟩
  · exact .inl h0
  · exact .inr ⟨g, cap, cur, hv, hg, hn, hm, Nat.le_of_eq hs.symm, ht⟩
section
variable {w w' : World} {e : TypeId} {size n : Nat} {v : Value} {xs : List Value}
theorem Row.lt (h : Row w e size v n xs) : ∀ k ∈ foot v, k < w.heap.size := by
  intro k hk
  rcases h.2 with ⟨rfl, _⟩ | ⟨g, cap, cur, rfl, hg, _⟩
  · cases hk
  · simp [foot_some] at hk; subst hk; exact hg.lt
theorem Row.ty (h : Row w e size v n xs) {g : Nat} {t : TypeId} {cs : Array Value} (hg : Blk w g t cs) (hne : e ≠ t) : g ∉ foot v := by
  intro hk
  rcases h.2 with ⟨rfl, _⟩ | ⟨g', cap, cur, rfl, hg', _⟩
  · cases hk
  · simp [foot_some] at hk; subst hk; exact Blk.ty hg' hg hne rfl
theorem Row.ty2 (h : Row w e size v n xs) {e' : TypeId} {size' n' : Nat} {v' : Value} {xs' : List Value} (h' : Row w e' size' v' n' xs') (hne : e ≠ e') : ∀ k ∈ foot v, k ∉ foot v' := by
  intro k hk
  rcases h.2 with ⟨rfl, _⟩ | ⟨g', cap, cur, rfl, hg', _⟩
  · cases hk
  · simp [foot_some] at hk; subst hk; exact h'.ty hg' (Ne.symm hne)
theorem Row.same (h : Row w e size v n xs) (hk : ∀ k ∈ foot v, w'.heap[k]? = w.heap[k]?) : Row w' e size v n xs := by
  refine ⟨h.1, ?_⟩
  rcases h.2 with h0 | ⟨g, cap, cur, rfl, hg, r⟩
  · exact .inl h0
  · exact .inr ⟨g, cap, cur, rfl, hg.same (hk g (by simp [foot_some])), r⟩
theorem Row.chg {S : List Nat} (h : Row w e size v n xs) (hc : Chg S w w') (hn : ∀ k ∈ foot v, k ∉ S) : Row w' e size v n xs :=
  h.same fun k hk => hc.block k (h.lt k hk) (hn k hk)
theorem Row.alloc (h : Row w e size v n xs) (o : Obj) : Row (w.alloc o) e size v n xs := h.same fun k hk => Below.heap_alloc w o k (h.lt k hk)
theorem Row.drew (h : Row w e size v n xs) : Row w.drew e size v n xs := h
theorem Row.drewN (h : Row w e size v n xs) (m : Nat) : Row (w.drewN m) e size v n xs := h
theorem Row.far (h : Row w e size v n xs) {p : Addr} (hp : p.block ∉ foot v) (u : Value) : Row (w.setCell p u) e size v n xs :=
  h.same fun k hk => Below.heap_setCell w p u k (fun e => hp (by rw [← e]; exact hk))
/-- What a row of at least one element looks like: its value, its cells. -/
theorem Row.form (h : Row w e size v n xs) (hn : 0 < n) :
    ∃ g cap, v = .slice (some ⟨g, 0, none⟩) n cap ∧ foot v = [g] ∧ n ≤ cap ∧ (∀ j u, xs[j]? = some u → w.cell? ⟨g, j, none⟩ = some u) ∧ (∀ j, w.frozen? ⟨g, j, none⟩ = false) ∧ g < w.heap.size := by
  rcases h.2 with ⟨_, h0⟩ | ⟨g, cap, cur, rfl, hg, hc, hm, hs, ht⟩
  · omega
  · refine ⟨g, cap, rfl, rfl, hc, fun j u hu => ?_, hg.frozen, hg.lt⟩
    rw [hg.cell]
    rw [← ht, List.getElem?_take] at hu
    split at hu
    · simpa using hu
    · cases hu
theorem Row.val (h : Row w e size v n xs) : ∃ A c, v = .slice A n c ∧ (A = none → c = 0 ∧ n = 0) := by
  rcases h.2 with ⟨rfl, rfl⟩ | ⟨g, cap, cur, rfl, _⟩
  · exact ⟨_, _, rfl, fun _ => ⟨rfl, rfl⟩⟩
  · exact ⟨_, _, rfl, fun h => by cases h⟩
/-- A store into one of the row's cells. -/
theorem Row.set_ {g cap : Nat} (h : Row w e size (.slice (some ⟨g, 0, none⟩) n cap) n xs) {j : Nat} (hj : j < n * size) (u : Value) :
    Row (w.setCell ⟨g, j, none⟩ u) e size (.slice (some ⟨g, 0, none⟩) n cap) n (xs.set j u) := by
  refine ⟨by simpa using h.1, ?_⟩
  rcases h.2 with ⟨h0, _⟩ | ⟨g', cap', cur, hv, hg, hc, hm, hs, ht⟩
  · cases h0
  · simp only [Value.slice.injEq, Option.some.injEq, Addr.mk.injEq] at hv
    obtain ⟨⟨rfl, _⟩, _, rfl⟩ := hv
    refine .inr ⟨g, cap, _, rfl, hg.set_ j u, hc, hm, by simpa using hs, ?_⟩
    rw [← ht, Array.toList_setIfInBounds, List.take_set]
/-- The first k of the row, with a capacity of k. -/
theorem Row.cut {g cap : Nat} (h : Row w e size (.slice (some ⟨g, 0, none⟩) n cap) n xs) {k : Nat} (hk : k ≤ n) :
    Row w e size (.slice (some ⟨g, 0, none⟩) k k) k (xs.take (k * size)) := by
  have hkn : k * size ≤ n * size := Nat.mul_le_mul_right _ hk
  refine ⟨by rw [List.length_take, h.1]; omega, ?_⟩
  rcases h.2 with ⟨h0, _⟩ | ⟨g', cap', cur, hv, hg, hc, hm, hs, ht⟩
  · cases h0
  · simp only [Value.slice.injEq, Option.some.injEq, Addr.mk.injEq] at hv
    obtain ⟨⟨rfl, _⟩, _, rfl⟩ := hv
    refine .inr ⟨g, k, cur, rfl, hg, Nat.le_refl _, by omega, Nat.le_trans (Nat.mul_le_mul_right _ (by omega)) hs, ?_⟩
    rw [← ht, List.take_take, Nat.min_eq_left hkn]
end

section
variable {P : Program} (w : World)
/-- append onto a row, of at least one element: the row that is there, or the block that is made now. -/
theorem run_append_row (t ty e : TypeId) (i : TypeInfo) (z : Value) (size bytes : Nat) (ht : P.underlying t = some (.slice e)) (hi : P.info? e = some i) (hz : i.zero = some z)
    (hsize : i.size = size) (hby : i.bytes = bytes) (hzs : z.cells.size = size)
    (v : Value) (n : Nat) (xs : List Value) (hr : Row w e size v n xs)
    (a : Addr) (m c : Nat) (news : List Value) (hl : news.length = m * size) (hnews : ∀ j u, news[j]? = some u → w.cell? (a.add j) = some u) (h1 : ∀ u ∈ news, u.oneCell' = true)
    (hm0 : 0 < m) (h63 : n + m ≤ maxLen) (hbytes : (n + m) * bytes ≤ 140737488355328) (H : Nat) (hH : w.heap.size = H) :
    ∃ g cap w', (Builtin.append_ #[t, t] ty #[v, .slice (some a) m c]).run P w = .ok (.slice (some ⟨g, 0, none⟩) (n + m) cap) w' ∧
      Row w' e size (.slice (some ⟨g, 0, none⟩) (n + m) cap) (n + m) (xs ++ news) ∧ w.grownBy w' v.ownBlock ∧ (v.ownBlock = some g ∨ g = H) ∧ g < w'.heap.size := by
  subst hsize
  subst hby
  subst hH
  have hsmall : n + m ≤ 9223372036854775807 := by simp only [maxLen] at h63; omega
  have hlen : (xs ++ news).length = (n + m) * i.size := by rw [List.length_append, hr.1, hl, Nat.add_mul]
  have grown : ∀ (old : Nat), old < n + m → ∀ (row : Option Nat),
      Row (w.drew.alloc (.cells (xs.toArray ++ news.toArray ++ Builtin.zeroCells z.cells (grownCap w (n + m) old e - (n + m))) e)) e i.size
        (.slice (some ⟨w.heap.size, 0, none⟩) (n + m) (grownCap w (n + m) old e)) (n + m) (xs ++ news) ∧
      w.grownBy (w.drew.alloc (.cells (xs.toArray ++ news.toArray ++ Builtin.zeroCells z.cells (grownCap w (n + m) old e - (n + m))) e)) row := by
    intro old ho row
    have hge := grownCap_ge w (n + m) old e
    have hcm : grownCap w (n + m) old e ≤ maxLen := grownCap_le_maxLen w (n + m) old e h63
    refine ⟨⟨hlen, .inr ⟨w.heap.size, _, _, rfl, heap_alloc_new w.drew _, hge, hcm, ?_, ?_⟩⟩, ⟨rfl, rfl, rfl, by simp, fun k hk _ => heap_alloc_old w.drew _ k hk⟩⟩
    · simp only [Array.size_append, List.size_toArray, size_zeroCells, hzs, hr.1, hl, ← Nat.add_mul]
      exact Nat.mul_le_mul_right _ (by omega)
    · simp only [Array.toList_append, List.append_assoc]
      rw [← List.append_assoc, ← hlen]
      exact List.take_left
  rcases hr.2 with ⟨rfl, rfl⟩ | ⟨g, cap, cur, rfl, hg, hnc, hcm, hcs, htake⟩
  · have hx : xs = [] := List.eq_nil_of_length_eq_zero (by simpa using hr.1)
    subst hx
    have hr := run_append_nil (P := P) w t ty e i z ht hi hz a m c news hl hnews (by omega) (by omega) (by have hb := hbytes; simp only [Nat.zero_add] at hb; omega)
    have hgr := grown 0 (by omega) (Value.ownBlock (.slice none 0 0))
    simp only [Nat.zero_add, List.nil_append, Array.empty_append] at hgr ⊢
    exact ⟨_, _, _, hr, hgr.1, hgr.2, .inr rfl, by simp⟩
  · by_cases hroom : n + m ≤ cap
    · have hfit : n * i.size + news.length ≤ cur.size := by rw [hl, ← Nat.add_mul]; exact Nat.le_trans (Nat.mul_le_mul_right _ hroom) hcs
      have hr := run_append_room (P := P) w t ty e i ht hi g n cap cur hg a m c news hl hnews h1 hroom hfit
      refine ⟨_, _, _, hr, ⟨hlen, .inr ⟨g, cap, _, rfl, setRow_heap w g cur _ e _ hg, hroom, hcm, ?_, ?_⟩⟩, ⟨rfl, rfl, rfl, by simp, fun k _ hk => setRow_other w g k _ (fun e => hk (by simp [Value.ownBlock, e]))⟩, .inl rfl, by have := hg.lt; simpa using this⟩
      · simp only [List.size_toArray, List.length_append, List.length_take, List.length_drop, Array.length_toList]
        omega
      · rw [htake, ← hlen]
        exact List.take_left
    · have holds : ∀ j u, xs[j]? = some u → w.cell? ((⟨g, 0, none⟩ : Addr).add j) = some u := by
        intro j u hu
        have hadd : (⟨g, 0, none⟩ : Addr).add j = ⟨g, j, none⟩ := by unfold Addr.add; split <;> simp_all
        rw [hadd, hg.cell]
        rw [← htake, List.getElem?_take] at hu
        split at hu
        · simpa using hu
        · cases hu
      have hr := run_append_grow (P := P) w t ty e i z ht hi hz ⟨g, 0, none⟩ n cap xs hr.1 holds a m c news hl hnews (by omega) (by omega) (growslice_fits (by omega) hbytes)
      have hgr := grown cap (by omega) (Value.ownBlock (.slice (some ⟨g, 0, none⟩) n cap))
      exact ⟨_, _, _, hr, hgr.1, hgr.2, .inr rfl, by simp⟩

theorem wp_append_row {o : Oper} {a : Act} {K : Act → World → Prop} {Q : Exit → Act → World → Prop} (s x : Operand) (t : TypeId)
    (ho : o.op = .call { callee := .builtin .append, args := #[s, x], argTypes := #[t, t] })
    (e : TypeId) (i : TypeInfo) (z : Value) (size bytes : Nat) (ht : P.underlying t = some (.slice e)) (hi : P.info? e = some i) (hz : i.zero = some z)
    (hsize : i.size = size) (hby : i.bytes = bytes) (hzs : z.cells.size = size)
    (v : Value) (n : Nat) (xs : List Value) (hs : a.eval s = v) (hr : Row w e size v n xs)
    (ad : Addr) (m c : Nat) (news : List Value) (hx : a.eval x = .slice (some ad) m c) (hl : news.length = m * size) (hnews : ∀ j u, news[j]? = some u → w.cell? (ad.add j) = some u) (h1 : ∀ u ∈ news, u.oneCell' = true)
    (hm : 0 < m) (h63 : n + m ≤ maxLen) (hbytes : (n + m) * bytes ≤ 140737488355328) (H : Nat) (hH : w.heap.size = H)
    (h : ∀ g cap w', Row w' e size (.slice (some ⟨g, 0, none⟩) (n + m) cap) (n + m) (xs ++ news) → w.grownBy w' v.ownBlock → (v.ownBlock = some g ∨ g = H) → g < w'.heap.size → K (a.put o.dst (.slice (some ⟨g, 0, none⟩) (n + m) cap)) w') : o.wp P a w K Q := by
  obtain ⟨g, cap, w', hrun, h2, h3, h4, h5⟩ := run_append_row (P := P) w t o.type e i z size bytes ht hi hz hsize hby hzs v n xs hr ad m c news hl hnews h1 hm h63 hbytes H hH
  unfold Oper.wp execOp
  simp only [ho, resolve, invoke, builtin, Sem.run_bind, Sem.run_pure, Result.andThen_ok, List.map_toArray, List.map_cons, List.map_nil, hs, hx, hrun]
  exact h g cap w' h2 h3 h4 h5
theorem wpList_append_row {ops : Array Oper} {rest : List Oper} {o : Oper} {a : Act} {Q : Exit → Act → World → Prop} (hgd : o.guard = none) (s x : Operand) (t : TypeId)
    (ho : o.op = .call { callee := .builtin .append, args := #[s, x], argTypes := #[t, t] })
    (e : TypeId) (i : TypeInfo) (z : Value) (size bytes : Nat) (ht : P.underlying t = some (.slice e)) (hi : P.info? e = some i) (hz : i.zero = some z)
    (hsize : i.size = size) (hby : i.bytes = bytes) (hzs : z.cells.size = size)
    (v : Value) (n : Nat) (xs : List Value) (hs : a.eval s = v) (hr : Row w e size v n xs)
    (ad : Addr) (m c : Nat) (news : List Value) (hx : a.eval x = .slice (some ad) m c) (hl : news.length = m * size) (hnews : ∀ j u, news[j]? = some u → w.cell? (ad.add j) = some u) (h1 : ∀ u ∈ news, u.oneCell' = true)
    (hm : 0 < m) (h63 : n + m ≤ maxLen) (hbytes : (n + m) * bytes ≤ 140737488355328) (H : Nat) (hH : w.heap.size = H)
    (h : ∀ g cap w', Row w' e size (.slice (some ⟨g, 0, none⟩) (n + m) cap) (n + m) (xs ++ news) → w.grownBy w' v.ownBlock → (v.ownBlock = some g ∨ g = H) → g < w'.heap.size → wpList P ops Q rest (a.put o.dst (.slice (some ⟨g, 0, none⟩) (n + m) cap)) w') : wpList P ops Q (o :: rest) a w :=
  wpList_plain hgd fun _ hK => wp_append_row w s x t ho e i z size bytes ht hi hz hsize hby hzs v n xs hs hr ad m c news hx hl hnews h1 hm h63 hbytes H hH fun g cap w' h2 h3 h4 h5 => hK _ _ (h g cap w' h2 h3 h4 h5)
theorem step_append_row {ops : Array Oper} {o : Oper} {a : Act} {K : Act → World → Prop} {Q : Exit → Act → World → Prop} {E : Prop} (hgd : o.guard = none) (s x : Operand) (t : TypeId)
    (ho : o.op = .call { callee := .builtin .append, args := #[s, x], argTypes := #[t, t] })
    (e : TypeId) (i : TypeInfo) (z : Value) (size bytes : Nat) (ht : P.underlying t = some (.slice e)) (hi : P.info? e = some i) (hz : i.zero = some z)
    (hsize : i.size = size) (hby : i.bytes = bytes) (hzs : z.cells.size = size)
    (v : Value) (n : Nat) (xs : List Value) (hs : a.eval s = v) (hr : Row w e size v n xs)
    (ad : Addr) (m c : Nat) (news : List Value) (hx : a.eval x = .slice (some ad) m c) (hl : news.length = m * size) (hnews : ∀ j u, news[j]? = some u → w.cell? (ad.add j) = some u) (h1 : ∀ u ∈ news, u.oneCell' = true)
    (hm : 0 < m) (h63 : n + m ≤ maxLen) (hbytes : (n + m) * bytes ≤ 140737488355328) (H : Nat) (hH : w.heap.size = H)
    (h : ∀ g cap w', Row w' e size (.slice (some ⟨g, 0, none⟩) (n + m) cap) (n + m) (xs ++ news) → w.grownBy w' v.ownBlock → (v.ownBlock = some g ∨ g = H) → g < w'.heap.size → K (a.put o.dst (.slice (some ⟨g, 0, none⟩) (n + m) cap)) w') :
    if Region.wanted o (yielded ops a.tmps) = true then Oper.wp P o a w K Q else E := by
  have hw : Region.wanted o (yielded ops a.tmps) = true := by simp [Region.wanted, hgd]
  rw [if_pos hw]
  exact wp_append_row w s x t ho e i z size bytes ht hi hz hsize hby hzs v n xs hs hr ad m c news hx hl hnews h1 hm h63 hbytes H hH h
end
/-- Behind an append: the new row stands apart from whatever block stood apart from the old one. -/
theorem foot_grown {v : Value} {g n c H : Nat} {S : List Nat} (hat : v.ownBlock = some g ∨ g = H) (hf : ∀ k ∈ foot v, k ∈ S) : ∀ k ∈ foot (.slice (some ⟨g, 0, none⟩) n c), k ∈ S ∨ H ≤ k := by
  intro k hk
  simp [foot_some] at hk
  subst hk
  rcases hat with h | h
  · exact .inl (hf _ (by simp [foot, h]))
  · exact .inr (by omega)
theorem row_mem {v : Value} {k : Nat} (h : v.ownBlock = some k) : k ∈ foot v := by simp [foot, h]
end Go.Proofs
end
section
namespace Go.Proofs
open Go.RowKit
set_option linter.unusedVariables false

/-! ### A table, plainly -/
structure Spot (α : Type) where
  gen : Int
  there : Bool
  thing : α
structure Tab (α : Type) where
  size : Int
  first : Int
  spots : List (Spot α)
  freed : List Nat
  retired : Int
/-- The number above the last generation: a retired place has it. -/
def topG : Int := 18446744073709551615
theorem topG_val : topG = 18446744073709551615 := rfl
variable {α : Type}
def Tab.frees (t : Tab α) : Int := t.size - t.spots.length + t.freed.length
structure Tab.WF (t : Tab α) : Prop where
  s0 : 1 ≤ t.size
  s1 : t.size ≤ 4096
  f0 : 1 ≤ t.first
  f1 : t.first < topG
  len : (t.spots.length : Int) ≤ t.size
  free : ∀ k ∈ t.freed, ∃ s : Spot α, t.spots[k]? = some s ∧ s.there = false ∧ s.gen < topG
  nodup : t.freed.Nodup
  gens : ∀ (k : Nat) (s : Spot α), t.spots[k]? = some s → t.first ≤ s.gen ∧ s.gen ≤ topG ∧ (s.there = true → s.gen < topG)
  empties : ∀ (k : Nat) (s : Spot α), t.spots[k]? = some s → s.there = false → s.gen < topG → k ∈ t.freed
  ret : t.retired = (t.spots.countP (fun s : Spot α => s.gen == topG) : Nat)
theorem nodup_len {l : List Nat} {n : Nat} (hn : l.Nodup) (hb : ∀ k ∈ l, k < n) : l.length ≤ n := by
  have h := hn.length_le_of_subset (l₂ := List.range n) (fun k hk => List.mem_range.2 (hb k hk))
  simpa using h
theorem Tab.WF.freed_lt {t : Tab α} (h : t.WF) : ∀ k ∈ t.freed, k < t.spots.length := fun k hk => by
  obtain ⟨s, hs, _⟩ := h.free k hk
  exact (List.getElem?_eq_some_iff.1 hs).1
theorem Tab.WF.freed_len {t : Tab α} (h : t.WF) : t.freed.length ≤ t.spots.length := nodup_len h.nodup h.freed_lt
theorem Tab.WF.ret_bd {t : Tab α} (h : t.WF) : 0 ≤ t.retired ∧ t.retired ≤ t.spots.length := by
  have := List.countP_le_length (p := fun s : Spot α => s.gen == topG) (l := t.spots)
  rw [h.ret]; omega

/-- The spot at a place that was taken once. -/
def Tab.spot? (t : Tab α) (i : Int) : Option (Spot α) := if 0 ≤ i then t.spots[i.toNat]? else none
/-- What is there at a place. -/
def Tab.live (t : Tab α) (i : Int) : Option (Spot α) := (t.spot? i).filter (·.there)
def Tab.atIdx (t : Tab α) (i : Int) : Int := match t.live i with | some _ => i | none => 0
def Tab.atGen (t : Tab α) (i : Int) : Int := match t.live i with | some s => s.gen | none => 0
def Tab.atIs (t : Tab α) (i : Int) : Bool := (t.live i).isSome
/-- Does the ref name something? -/
def Tab.has (t : Tab α) (i g : Int) : Bool := match t.live i with | some s => decide (s.gen = g) | none => false
def Tab.takeAt (t : Tab α) : Nat := t.freed.getLast?.getD t.spots.length
def Tab.take (z : α) (t : Tab α) : Tab α := match t.freed with
  | [] => { t with spots := t.spots ++ [⟨t.first, false, z⟩] }
  | _ :: _ => { t with freed := t.freed.dropLast }
def Tab.genAt (t : Tab α) (i : Nat) : Int := match t.spots[i]? with | some s => s.gen | none => t.first
def Tab.fill (t : Tab α) (i : Nat) (x : α) : Tab α := { t with spots := t.spots.set i ⟨t.genAt i, true, x⟩ }
def Tab.put (z : α) (t : Tab α) (x : α) : Tab α := (t.take z).fill t.takeAt x
def Tab.drop (z : α) (t : Tab α) (i : Nat) (g : Int) : Tab α :=
  { t with spots := t.spots.set i ⟨g + 1, false, z⟩, freed := if topG ≤ g + 1 then t.freed else t.freed ++ [i], retired := if topG ≤ g + 1 then t.retired + 1 else t.retired }

/-- The table in which another thing is at a place. -/
def Tab.thing (t : Tab α) (i : Nat) (x : α) : Tab α := match t.spots[i]? with | some s => { t with spots := t.spots.set i { s with thing := x } } | none => t
theorem live_iff {t : Tab α} {i : Int} {s : Spot α} : t.live i = some s ↔ 0 ≤ i ∧ t.spots[i.toNat]? = some s ∧ s.there = true := by
  unfold Tab.live Tab.spot?
  by_cases h : 0 ≤ i
  · simp [h, Option.filter_eq_some_iff]
  · simp [h]
theorem live_nat {t : Tab α} {i : Nat} {s : Spot α} : t.live (i : Nat) = some s ↔ t.spots[i]? = some s ∧ s.there = true := by
  rw [live_iff]; simp
theorem has_iff {t : Tab α} {i g : Int} : t.has i g = true ↔ ∃ s, t.live i = some s ∧ s.gen = g := by
  unfold Tab.has
  cases h : t.live i with
  | none => simp
  | some s => simp
theorem live_none {t : Tab α} {i : Int} (h : t.live i = none) : t.atIdx i = 0 ∧ t.atGen i = 0 ∧ t.atIs i = false ∧ ∀ g, t.has i g = false := by
  unfold Tab.atIdx Tab.atGen Tab.atIs Tab.has
  simp [h]
theorem live_some {t : Tab α} {i : Int} {s : Spot α} (h : t.live i = some s) : t.atIdx i = i ∧ t.atGen i = s.gen ∧ t.atIs i = true := by
  unfold Tab.atIdx Tab.atGen Tab.atIs
  simp [h]
theorem live_cases (t : Tab α) (i : Int) : (∃ s, t.live i = some s) ∨ t.live i = none := by
  cases h : t.live i with
  | none => exact .inr rfl
  | some s => exact .inl ⟨s, rfl⟩

theorem take_nil {z : α} {t : Tab α} (h : t.freed = []) : t.take z = { t with spots := t.spots ++ [⟨t.first, false, z⟩] } ∧ t.takeAt = t.spots.length := by
  unfold Tab.take Tab.takeAt
  rw [h]; exact ⟨rfl, rfl⟩
theorem take_cons {z : α} {t : Tab α} {l : List Nat} {k : Nat} (h : t.freed = l ++ [k]) : t.take z = { t with freed := l } ∧ t.takeAt = k := by
  unfold Tab.take Tab.takeAt
  rw [h]
  constructor
  · cases hl : l ++ [k] with
    | nil => simp at hl
    | cons a b => simp [← hl]
  · simp
/-- The place whose turn it is, and what it is like: not there, below the last generation, no longer free. -/
theorem Tab.WF.take_at {z : α} {t : Tab α} (h : t.WF) (hf : t.frees ≠ 0) :
    ∃ s, (t.take z).spots[t.takeAt]? = some s ∧ s.there = false ∧ s.gen < topG ∧ t.first ≤ s.gen ∧ t.takeAt ∉ (t.take z).freed ∧ t.live t.takeAt = none ∧ s.gen = t.genAt t.takeAt ∧ (t.takeAt : Int) < t.size := by
  rcases List.eq_nil_or_concat t.freed with hn | ⟨l, k, hk⟩
  · obtain ⟨e1, e2⟩ := take_nil (z := z) hn
    have hlt : (t.spots.length : Int) < t.size := by have := h.len; unfold Tab.frees at hf; rw [hn] at hf; simp at hf; omega
    refine ⟨⟨t.first, false, z⟩, by rw [e1, e2]; simp, rfl, h.f1, Int.le_refl _, by rw [e1, e2]; show _ ∉ t.freed; rw [hn]; simp, ?_, ?_, by rw [e2]; exact hlt⟩
    · rw [e2]
      cases hl : t.live (t.spots.length : Nat) with
      | none => rfl
      | some s => have := (live_nat.1 hl).1; simp at this
    · rw [e2]; unfold Tab.genAt; simp
  · rw [List.concat_eq_append] at hk
    obtain ⟨e1, e2⟩ := take_cons (z := z) hk
    obtain ⟨s, hs, hth, hg⟩ := h.free k (by rw [hk]; simp)
    refine ⟨s, by rw [e1, e2]; exact hs, hth, hg, (h.gens k s hs).1, ?_, ?_, ?_, ?_⟩
    · rw [e1, e2]
      have := h.nodup
      rw [hk, List.nodup_append] at this
      intro hm
      exact this.2.2 k hm k (by simp) rfl
    · rw [e2]
      cases hl : t.live (k : Nat) with
      | none => rfl
      | some s' =>
        obtain ⟨h1, h2⟩ := live_nat.1 hl
        rw [hs] at h1; cases h1; rw [hth] at h2; cases h2
    · rw [e2]; unfold Tab.genAt; rw [hs]
    · rw [e2]; have := (List.getElem?_eq_some_iff.1 hs).1; have := h.len; omega
/-- The spots behind the place was taken, at another place. -/
theorem take_other {z : α} {t : Tab α} {k : Nat} (hk : k ≠ t.takeAt) : (t.take z).spots[k]? = t.spots[k]? := by
  rcases List.eq_nil_or_concat t.freed with hn | ⟨l, j, hj⟩
  · obtain ⟨e1, e2⟩ := take_nil (z := z) hn
    rw [e1]
    show (t.spots ++ _)[k]? = _
    rw [e2] at hk
    rcases Nat.lt_or_ge k t.spots.length with h | h
    · rw [List.getElem?_append_left h]
    · rw [List.getElem?_append_right h, List.getElem?_eq_none h, List.getElem?_eq_none]
      simp; omega
  · rw [List.concat_eq_append] at hj
    rw [(take_cons (z := z) hj).1]
theorem put_eq {z : α} {t : Tab α} (h : t.WF) (hf : t.frees ≠ 0) (x : α) :
    (t.put z x) = { (t.take z) with spots := (t.take z).spots.set t.takeAt ⟨t.genAt t.takeAt, true, x⟩ } := by
  obtain ⟨s, hs, _, _, _, _, _, hg, _⟩ := h.take_at (z := z) hf
  unfold Tab.put Tab.fill
  have : (t.take z).genAt t.takeAt = t.genAt t.takeAt := by
    conv => lhs; unfold Tab.genAt
    rw [hs]; exact hg
  rw [this]
theorem put_spots {z : α} {t : Tab α} (h : t.WF) (hf : t.frees ≠ 0) (x : α) (k : Nat) :
    (t.put z x).spots[k]? = if k = t.takeAt then some ⟨t.genAt t.takeAt, true, x⟩ else t.spots[k]? := by
  obtain ⟨s, hs, _⟩ := h.take_at (z := z) hf
  rw [put_eq h hf x]
  show ((t.take z).spots.set t.takeAt _)[k]? = _
  by_cases hk : k = t.takeAt
  · subst hk
    rw [if_pos rfl, List.getElem?_set_self (List.getElem?_eq_some_iff.1 hs).1]
  · rw [if_neg hk, List.getElem?_set_ne (fun e => hk e.symm), take_other hk]
theorem put_freed {z : α} {t : Tab α} (h : t.WF) (hf : t.frees ≠ 0) (x : α) (k : Nat) : k ∈ (t.put z x).freed ↔ k ∈ t.freed ∧ k ≠ t.takeAt := by
  rw [put_eq h hf x]
  show k ∈ (t.take z).freed ↔ _
  rcases List.eq_nil_or_concat t.freed with hn | ⟨l, j, hj⟩
  · obtain ⟨e1, e2⟩ := take_nil (z := z) hn
    rw [e1]; show k ∈ t.freed ↔ _; rw [hn]; simp
  · rw [List.concat_eq_append] at hj
    obtain ⟨e1, e2⟩ := take_cons (z := z) hj
    rw [e1, e2]
    show k ∈ l ↔ _
    rw [hj]
    have := h.nodup
    rw [hj, List.nodup_append] at this
    simp only [List.mem_append, List.mem_singleton]
    constructor
    · intro hm
      exact ⟨.inl hm, fun e => this.2.2 k hm j (by simp) e⟩
    · rintro ⟨h1 | h1, h2⟩
      · exact h1
      · exact absurd h1 h2
theorem put_same {z : α} {t : Tab α} (x : α) : (t.put z x).size = t.size ∧ (t.put z x).first = t.first ∧ (t.put z x).retired = t.retired := by
  unfold Tab.put Tab.fill Tab.take
  cases t.freed <;> exact ⟨rfl, rfl, rfl⟩
theorem put_frees {z : α} {t : Tab α} (h : t.WF) (hf : t.frees ≠ 0) (x : α) : (t.put z x).frees = t.frees - 1 := by
  rw [put_eq h hf x]
  rcases List.eq_nil_or_concat t.freed with hn | ⟨l, j, hj⟩
  · rw [(take_nil (z := z) hn).1]; unfold Tab.frees; simp; omega
  · rw [List.concat_eq_append] at hj
    rw [(take_cons (z := z) hj).1]; unfold Tab.frees; simp [hj]; omega
theorem countP_set {β : Type} (p : β → Bool) (l : List β) (k : Nat) (x y : β) (h : l[k]? = some x) (hx : p x = p y) : (l.set k y).countP p = l.countP p := by
  have hlt := (List.getElem?_eq_some_iff.1 h).1
  have hv := (List.getElem?_eq_some_iff.1 h).2
  rw [List.countP_set hlt, hv, hx]
  by_cases hp : p y = true
  · have : 0 < l.countP p := by
      rw [List.countP_pos_iff]
      exact ⟨x, by rw [← hv]; exact List.getElem_mem hlt, by rw [hx]; exact hp⟩
    simp [hp]; omega
  · simp [hp]
theorem Tab.WF.put {z : α} {t : Tab α} (h : t.WF) (hf : t.frees ≠ 0) (x : α) : (t.put z x).WF := by
  obtain ⟨s, hs, hth, hg, hfg, hnf, hlv, hgen, hlt⟩ := h.take_at (z := z) hf
  obtain ⟨p1, p2, p3⟩ := put_same (z := z) (t := t) x
  refine ⟨by rw [p1]; exact h.s0, by rw [p1]; exact h.s1, by rw [p2]; exact h.f0, by rw [p2]; exact h.f1, ?_, ?_, ?_, ?_, ?_, ?_⟩
  · rw [p1]
    have : ((t.put z x).spots.length : Int) = ((t.take z).spots.length : Nat) := by rw [put_eq h hf x]; simp
    rw [this]
    rcases List.eq_nil_or_concat t.freed with hn | ⟨l, j, hj⟩
    · obtain ⟨e1, e2⟩ := take_nil (z := z) hn
      rw [e1]; rw [e2] at hlt; simp; omega
    · rw [List.concat_eq_append] at hj
      rw [(take_cons (z := z) hj).1]; exact h.len
  · intro k hk
    obtain ⟨hk1, hk2⟩ := (put_freed h hf x k).1 hk
    obtain ⟨s', h1, h2, h3⟩ := h.free k hk1
    exact ⟨s', by rw [put_spots h hf, if_neg hk2]; exact h1, h2, h3⟩
  · rw [put_eq h hf x]
    show (t.take z).freed.Nodup
    rcases List.eq_nil_or_concat t.freed with hn | ⟨l, j, hj⟩
    · rw [(take_nil (z := z) hn).1]; exact h.nodup
    · rw [List.concat_eq_append] at hj
      rw [(take_cons (z := z) hj).1]
      have := h.nodup
      rw [hj, List.nodup_append] at this
      exact this.1
  · intro k s' hk
    rw [put_spots h hf] at hk
    rw [p2]
    by_cases e : k = t.takeAt
    · rw [if_pos e] at hk; cases hk
      exact ⟨by show t.first ≤ t.genAt _; rw [← hgen]; exact hfg, by show t.genAt _ ≤ _; omega, fun _ => by show t.genAt _ < _; omega⟩
    · rw [if_neg e] at hk; exact h.gens k s' hk
  · intro k s' hk h1 h2
    rw [put_spots h hf] at hk
    by_cases e : k = t.takeAt
    · rw [if_pos e] at hk; cases hk; cases h1
    · rw [if_neg e] at hk
      exact (put_freed h hf x k).2 ⟨h.empties k s' hk h1 h2, e⟩
  · rw [p3, h.ret, put_eq h hf x]
    have hne : (s.gen == topG) = false := by simp; omega
    have e0 : (t.take z).spots.countP (fun s => s.gen == topG) = t.spots.countP (fun s => s.gen == topG) := by
      rcases List.eq_nil_or_concat t.freed with hn | ⟨l, j, hj⟩
      · rw [(take_nil (z := z) hn).1]
        show (t.spots ++ _).countP _ = _
        rw [List.countP_append]
        have : (t.first == topG) = false := by simp; have := h.f1; omega
        simp [this]
      · rw [List.concat_eq_append] at hj
        rw [(take_cons (z := z) hj).1]
    show ((t.spots.countP _ : Nat) : Int) = (((t.take z).spots.set t.takeAt _).countP _ : Nat)
    rw [countP_set _ _ _ s _ hs (by simp only; rw [hgen]), e0]
theorem Tab.WF.set {t : Tab α} (h : t.WF) {i : Nat} {s : Spot α} (hs : t.spots[i]? = some s) (x : α) : ({ t with spots := t.spots.set i { s with thing := x } } : Tab α).WF := by
  have hlt := (List.getElem?_eq_some_iff.1 hs).1
  have key : ∀ (k : Nat) (s' : Spot α), (t.spots.set i { s with thing := x })[k]? = some s' → ∃ s0 : Spot α, t.spots[k]? = some s0 ∧ s0.gen = s'.gen ∧ s0.there = s'.there := by
    intro k s' hk
    by_cases e : k = i
    · subst e; rw [List.getElem?_set_self hlt] at hk; cases hk; exact ⟨s, hs, rfl, rfl⟩
    · rw [List.getElem?_set_ne (fun e' => e e'.symm)] at hk; exact ⟨s', hk, rfl, rfl⟩
  refine ⟨h.s0, h.s1, h.f0, h.f1, by show ((t.spots.set _ _).length : Int) ≤ _; rw [List.length_set]; exact h.len, ?_, h.nodup, ?_, ?_, ?_⟩
  · intro k hk
    obtain ⟨s', h1, h2, h3⟩ := h.free k hk
    by_cases e : k = i
    · subst e; rw [hs] at h1; cases h1
      exact ⟨_, List.getElem?_set_self hlt, h2, h3⟩
    · exact ⟨s', by show (t.spots.set _ _)[k]? = _; rw [List.getElem?_set_ne (fun e' => e e'.symm)]; exact h1, h2, h3⟩
  · intro k s' hk
    obtain ⟨s0, h0, h1, h2⟩ := key k s' hk
    have := h.gens k s0 h0
    rw [h1, h2] at this; exact this
  · intro k s' hk h1 h2
    obtain ⟨s0, h0, h3, h4⟩ := key k s' hk
    exact h.empties k s0 h0 (by rw [h4]; exact h1) (by rw [h3]; exact h2)
  · show t.retired = ((t.spots.set i _).countP _ : Nat)
    rw [countP_set (fun s : Spot α => s.gen == topG) _ _ s { s with thing := x } hs rfl]; exact h.ret
theorem drop_spots {z : α} {t : Tab α} {i : Nat} {g : Int} (hi : i < t.spots.length) (k : Nat) : (t.drop z i g).spots[k]? = if k = i then some ⟨g + 1, false, z⟩ else t.spots[k]? := by
  unfold Tab.drop
  show (t.spots.set i _)[k]? = _
  by_cases e : k = i
  · subst e; rw [if_pos rfl, List.getElem?_set_self hi]
  · rw [if_neg e, List.getElem?_set_ne (fun e' => e e'.symm)]
theorem drop_freed {z : α} {t : Tab α} {i : Nat} {g : Int} : (t.drop z i g).freed = if topG ≤ g + 1 then t.freed else t.freed ++ [i] := rfl
theorem Tab.WF.drop {z : α} {t : Tab α} (h : t.WF) {i : Nat} {s : Spot α} (hs : t.spots[i]? = some s) (hth : s.there = true) : (t.drop z i s.gen).WF := by
  have hlt := (List.getElem?_eq_some_iff.1 hs).1
  have hv := (List.getElem?_eq_some_iff.1 hs).2
  obtain ⟨g1, g2, g3⟩ := h.gens i s hs
  have g4 := g3 hth
  have hnf : i ∉ t.freed := fun hm => by
    obtain ⟨s', h1, h2, _⟩ := h.free i hm
    rw [hs] at h1; cases h1; rw [hth] at h2; cases h2
  have key := @drop_spots _ z t i s.gen hlt
  refine ⟨h.s0, h.s1, h.f0, h.f1, by show ((t.spots.set _ _).length : Int) ≤ _; rw [List.length_set]; exact h.len, ?_, ?_, ?_, ?_, ?_⟩
  · intro k hk
    rw [drop_freed] at hk
    rw [key]
    by_cases e : k = i
    · subst e
      rw [if_pos rfl]
      refine ⟨_, rfl, rfl, ?_⟩
      show s.gen + 1 < topG
      split at hk
      · exact absurd hk hnf
      · omega
    · rw [if_neg e]
      refine h.free k ?_
      split at hk
      · exact hk
      · simp at hk; rcases hk with h1 | h1
        · exact h1
        · exact absurd h1 e
  · rw [drop_freed]
    split
    · exact h.nodup
    · rw [List.nodup_append]
      exact ⟨h.nodup, by simp, fun a ha b hb => by simp at hb; subst hb; rintro rfl; exact hnf ha⟩
  · intro k s' hk
    rw [key] at hk
    by_cases e : k = i
    · rw [if_pos e] at hk; cases hk
      refine ⟨?_, ?_, fun h => by cases h⟩
      · show t.first ≤ s.gen + 1; omega
      · show s.gen + 1 ≤ topG; omega
    · rw [if_neg e] at hk; exact h.gens k s' hk
  · intro k s' hk h1 h2
    rw [key] at hk
    rw [drop_freed]
    by_cases e : k = i
    · rw [if_pos e] at hk; cases hk
      have h2' : s.gen + 1 < topG := h2
      rw [if_neg (by omega)]
      subst e; simp
    · rw [if_neg e] at hk
      have := h.empties k s' hk h1 h2
      split
      · exact this
      · simp [this]
  · show (if topG ≤ s.gen + 1 then t.retired + 1 else t.retired) = ((t.spots.set i _).countP _ : Nat)
    have hne : (s.gen == topG) = false := by simp; omega
    rw [List.countP_set hlt, hv]
    simp only [hne]
    rw [h.ret]
    by_cases e : topG ≤ s.gen + 1
    · have he : (s.gen + 1 == topG) = true := by simp; omega
      rw [if_pos e]; simp [he]
    · have he : (s.gen + 1 == topG) = false := by simp; omega
      rw [if_neg e]; simp [he]
/-- May there be such a table? -/
def mayT (size first : Int) : Bool := decide (1 ≤ size) && decide (size ≤ 4096) && decide (1 ≤ first) && decide (first ≤ 18446744073709551614)
theorem mayT_iff {size first : Int} : mayT size first = true ↔ 1 ≤ size ∧ size ≤ 4096 ∧ 1 ≤ first ∧ first < topG := by
  unfold mayT; rw [topG_val]; simp [and_assoc]; omega
theorem Tab.WF.new {size first : Int} (h0 : 1 ≤ size) (h1 : size ≤ 4096) (h2 : 1 ≤ first) (h3 : first < topG) : (⟨size, first, [], [], 0⟩ : Tab α).WF :=
  ⟨h0, h1, h2, h3, by simp; omega, by simp, by simp, by simp, by simp, by simp⟩
end Go.Proofs
end
