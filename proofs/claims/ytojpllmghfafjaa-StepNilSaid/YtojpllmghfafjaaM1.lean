import Derived.Below
import Derived.Laws.OwnMore
import Derived.Deep.Draws
import Derived.Deep.AppendLies
import Derived.Laws.Rows
import Derived.Lib.Hide
import Derived.OwnWalk
import Derived.RegionTactic
section
namespace Go.Proofs
open Go.RowKit
set_option linter.unusedVariables false
set_option linter.unusedSimpArgs false

/-! ### A block that is known whole -/
/-- Block g is just the cells cs, of element type t; none of them is frozen. -/
def Blk (w : World) (g : Nat) (t : TypeId) (cs : Array Value) : Prop := w.heap[g]? = some (.cells cs t (0, 0))
theorem Blk.lt {w : World} {g : Nat} {t : TypeId} {cs : Array Value} (h : Blk w g t cs) : g < w.heap.size := (Array.getElem?_eq_some_iff.1 h).1
theorem Blk.cell {w : World} {g : Nat} {t : TypeId} {cs : Array Value} (h : Blk w g t cs) (i : Nat) : w.cell? ⟨g, i, none⟩ = cs[i]? := cell_of_row w g i cs t (0, 0) h
theorem Blk.frozen {w : World} {g : Nat} {t : TypeId} {cs : Array Value} (h : Blk w g t cs) (i : Nat) : w.frozen? ⟨g, i, none⟩ = false := by
  unfold Blk at h
  simp [World.frozen?, h]
theorem Blk.new (w : World) (t : TypeId) (cs : Array Value) : Blk (w.alloc (.cells cs t)) w.heap.size t cs := heap_alloc_new w _
theorem Blk.same {w w' : World} {g : Nat} {t : TypeId} {cs : Array Value} (h : Blk w g t cs) (e : w'.heap[g]? = w.heap[g]?) : Blk w' g t cs := e.trans h
theorem Blk.alloc {w : World} {g : Nat} {t : TypeId} {cs : Array Value} (h : Blk w g t cs) (o : Obj) : Blk (w.alloc o) g t cs := h.same (Below.heap_alloc w o g h.lt)
theorem Blk.drewN {w : World} {g : Nat} {t : TypeId} {cs : Array Value} (h : Blk w g t cs) (n : Nat) : Blk (w.drewN n) g t cs := h
theorem Blk.drew {w : World} {g : Nat} {t : TypeId} {cs : Array Value} (h : Blk w g t cs) : Blk w.drew g t cs := h
theorem Blk.set_ {w : World} {g : Nat} {t : TypeId} {cs : Array Value} (h : Blk w g t cs) (i : Nat) (u : Value) : Blk (w.setCell ⟨g, i, none⟩ u) g t (cs.setIfInBounds i u) := by
  unfold Blk at h ⊢
  simp [World.setCell, Array.getElem?_modify, h]
theorem Blk.far {w : World} {g : Nat} {t : TypeId} {cs : Array Value} (h : Blk w g t cs) {p : Addr} (hp : g ≠ p.block) (u : Value) : Blk (w.setCell p u) g t cs := h.same (Below.heap_setCell w p u g hp)
theorem Blk.ty {w : World} {g g' : Nat} {t t' : TypeId} {cs cs' : Array Value} (h : Blk w g t cs) (h' : Blk w g' t' cs') (hne : t ≠ t') : g ≠ g' := by
  rintro rfl
  unfold Blk at h h'
  rw [h] at h'
  injection h' with h'
  injection h' with _ ht
  exact hne ht

/-! ### What has turned: some blocks of those that were there, and new ones -/
/-- Of the blocks that were there at most those in S have turned; the streams are as they were. -/
structure Chg (S : List Nat) (w w' : World) : Prop where
  os : w'.os = w.os
  tape : w'.tape = w.tape
  output : w'.output = w.output
  size : w.heap.size ≤ w'.heap.size
  block : ∀ k, k < w.heap.size → k ∉ S → w'.heap[k]? = w.heap[k]?
theorem Chg.refl (S : List Nat) (w : World) : Chg S w w := ⟨rfl, rfl, rfl, Nat.le_refl _, fun _ _ _ => rfl⟩
theorem Chg.trans {S S' : List Nat} {a b c : World} (h : Chg S a b) (k : Chg S' b c) (hs : ∀ k ∈ S', k ∈ S ∨ a.heap.size ≤ k) : Chg S a c :=
  ⟨k.os.trans h.os, k.tape.trans h.tape, k.output.trans h.output, Nat.le_trans h.size k.size, fun i hi hn =>
    (k.block i (Nat.lt_of_lt_of_le hi h.size) (fun hm => by
      rcases hs i hm with h1 | h1
      · exact hn h1
      · omega)).trans (h.block i hi hn)⟩
theorem Chg.then {S : List Nat} {a b c : World} (h : Chg S a b) (k : Chg [] b c) : Chg S a c := h.trans k (fun _ hk => by cases hk)
theorem Chg.mono {S S' : List Nat} {a b : World} (h : Chg S a b) (hs : ∀ k ∈ S, k ∈ S' ∨ a.heap.size ≤ k) : Chg S' a b := (Chg.refl S' a).trans h hs
theorem Chg.any {S : List Nat} {a b : World} (h : Chg [] a b) : Chg S a b := h.mono (fun _ hk => by cases hk)
theorem Chg.drew {S : List Nat} {a b : World} (h : Chg S a b) : Chg S a b.drew := ⟨h.os, h.tape, h.output, h.size, h.block⟩
theorem Chg.drewN {S : List Nat} {a b : World} (h : Chg S a b) (n : Nat) : Chg S a (b.drewN n) := ⟨h.os, h.tape, h.output, h.size, h.block⟩
theorem Chg.alloc {S : List Nat} {a b : World} (h : Chg S a b) (o : Obj) : Chg S a (b.alloc o) :=
  h.then ⟨rfl, rfl, rfl, by simp, fun k hk _ => Below.heap_alloc _ _ _ hk⟩
theorem Chg.setCell {S : List Nat} {a b : World} (h : Chg S a b) {p : Addr} (hp : p.block ∈ S ∨ a.heap.size ≤ p.block) (u : Value) : Chg S a (b.setCell p u) :=
  h.trans (S' := [p.block]) ⟨rfl, rfl, rfl, by simp [World.setCell], fun k hk hn => Below.heap_setCell _ _ _ _ (by simpa using hn)⟩ (fun k hk => by simp at hk; subst hk; exact hp)
theorem Chg.grown {S : List Nat} {a b c : World} {row : Option Nat} (h : Chg S a b) (hg : b.grownBy c row) (hr : ∀ k, row = some k → k ∈ S ∨ a.heap.size ≤ k) : Chg S a c :=
  h.trans (S' := row.toList) ⟨hg.os, hg.tape, hg.output, hg.size, fun k hk hn => hg.block k hk (fun e => hn (by simp [← e]))⟩ (fun k hk => hr k (by simpa using hk))
theorem Chg.below {S : List Nat} {B : Nat} {a b : World} (h : Chg S a b) (hs : ∀ k ∈ S, B ≤ k) (hB : B ≤ a.heap.size) : Below B a b :=
  ⟨h.os, h.tape, h.output, h.size, fun k hk => h.block k (by omega) (fun hm => by have := hs k hm; omega)⟩
theorem Chg.of_below {a b : World} (h : Below a.heap.size a b) : Chg [] a b := ⟨h.os, h.tape, h.output, h.size, fun k hk _ => h.block k hk⟩
theorem Chg.to_below {a b : World} (h : Chg [] a b) : Below a.heap.size a b := h.below (fun _ hk => by cases hk) (Nat.le_refl _)
theorem Chg.cell {S : List Nat} {a b : World} (h : Chg S a b) {p : Addr} (hp : p.block < a.heap.size) (hn : p.block ∉ S) : b.cell? p = a.cell? p := World.cell?_of_block (h.block p.block hp hn)
theorem Chg.frozen {S : List Nat} {a b : World} (h : Chg S a b) {p : Addr} (hp : p.block < a.heap.size) (hn : p.block ∉ S) : b.frozen? p = a.frozen? p := World.frozen?_of_block (h.block p.block hp hn)
theorem Blk.chg {S : List Nat} {w w' : World} {g : Nat} {t : TypeId} {cs : Array Value} (h : Blk w g t cs) (hc : Chg S w w') (hn : g ∉ S) : Blk w' g t cs := h.same (hc.block g h.lt hn)

/-! ### A row: a slice whose cells are known, and of whose spare room nothing is -/
/-- The slice v (of n elements of type e, size cells each) reads as the cells xs; all that its capacity reaches lies in its block, from the block's head on. -/
def Row (w : World) (e : TypeId) (size : Nat) (v : Value) (n : Nat) (xs : List Value) : Prop :=
  xs.length = n * size ∧ ((v = .slice none 0 0 ∧ n = 0) ∨
    ∃ g cap cur, v = .slice (some ⟨g, 0, none⟩) n cap ∧ Blk w g e cur ∧ n ≤ cap ∧ cap ≤ maxLen ∧ cap * size ≤ cur.size ∧ cur.toList.take (n * size) = xs)
/-- The block of a slice, if it has one. -/
def foot (v : Value) : List Nat := v.ownBlock.toList
theorem foot_nil (n c : Nat) : foot (.slice none n c) = [] := rfl
theorem foot_some (a : Addr) (n c : Nat) : foot (.slice (some a) n c) = [a.block] := rfl
theorem Row.nil (w : World) (e : TypeId) (size : Nat) : Row w e size (.slice none 0 0) 0 [] := ⟨by simp, .inl ⟨rfl, rfl⟩⟩
theorem Row.of_own {w : World} {base : Nat} {e : TypeId} {size : Nat} {v : Value} {n : Nat} {xs : List Value} (h : w.ownsRow base e size v n xs) : Row w e size v n xs := by
  refine ⟨h.1, ?_⟩
  rcases h.2 with h0 | ⟨g, cap, cur, hv, _, hg, hn, hm, hs, ht⟩
  · exact .inl h0
  · exact .inr ⟨g, cap, cur, hv, hg, hn, hm, Nat.le_of_eq hs.symm, ht⟩
section
variable {w w' : World} {e : TypeId} {size n : Nat} {v : Value} {xs : List Value}
theorem Row.lt (h : Row w e size v n xs) : ∀ k ∈ foot v, k < w.heap.size := by
  intro k hk
  rcases h.2 with ⟨rfl, _⟩ | ⟨g, cap, cur, rfl, hg, _⟩
  · cases hk
  · simp [foot_some] at hk; subst hk; exact hg.lt
theorem Row.ty (h : Row w e size v n xs) {g : Nat} {t : TypeId} {cs : Array Value} (hg : Blk w g t cs) (hne : e ≠ t) : g ∉ foot v := by
  intro hk
  rcases h.2 with ⟨rfl, _⟩ | ⟨g', cap, cur, rfl, hg', _⟩
  · cases hk
  · simp [foot_some] at hk; subst hk; exact Blk.ty hg' hg hne rfl
theorem Row.ty2 (h : Row w e size v n xs) {e' : TypeId} {size' n' : Nat} {v' : Value} {xs' : List Value} (h' : Row w e' size' v' n' xs') (hne : e ≠ e') : ∀ k ∈ foot v, k ∉ foot v' := by
  intro k hk
  rcases h.2 with ⟨rfl, _⟩ | ⟨g', cap, cur, rfl, hg', _⟩
  · cases hk
  · simp [foot_some] at hk; subst hk; exact h'.ty hg' (Ne.symm hne)
theorem Row.same (h : Row w e size v n xs) (hk : ∀ k ∈ foot v, w'.heap[k]? = w.heap[k]?) : Row w' e size v n xs := by
  refine ⟨h.1, ?_⟩
  rcases h.2 with h0 | ⟨g, cap, cur, rfl, hg, r⟩
  · exact .inl h0
  · exact .inr ⟨g, cap, cur, rfl, hg.same (hk g (by simp [foot_some])), r⟩
theorem Row.chg {S : List Nat} (h : Row w e size v n xs) (hc : Chg S w w') (hn : ∀ k ∈ foot v, k ∉ S) : Row w' e size v n xs :=
  h.same fun k hk => hc.block k (h.lt k hk) (hn k hk)
theorem Row.alloc (h : Row w e size v n xs) (o : Obj) : Row (w.alloc o) e size v n xs := h.same fun k hk => Below.heap_alloc w o k (h.lt k hk)
theorem Row.drew (h : Row w e size v n xs) : Row w.drew e size v n xs := h
theorem Row.drewN (h : Row w e size v n xs) (m : Nat) : Row (w.drewN m) e size v n xs := h
theorem Row.far (h : Row w e size v n xs) {p : Addr} (hp : p.block ∉ foot v) (u : Value) : Row (w.setCell p u) e size v n xs :=
  h.same fun k hk => Below.heap_setCell w p u k (fun e => hp (by rw [← e]; exact hk))
/-- What a row of at least one element looks like: its value, its cells. -/
theorem Row.form (h : Row w e size v n xs) (hn : 0 < n) :
    ∃ g cap, v = .slice (some ⟨g, 0, none⟩) n cap ∧ foot v = [g] ∧ n ≤ cap ∧ (∀ j u, xs[j]? = some u → w.cell? ⟨g, j, none⟩ = some u) ∧ (∀ j, w.frozen? ⟨g, j, none⟩ = false) ∧ g < w.heap.size := by
  rcases h.2 with ⟨_, h0⟩ | ⟨g, cap, cur, rfl, hg, hc, hm, hs, ht⟩
  · omega
  · refine ⟨g, cap, rfl, rfl, hc, fun j u hu => ?_, hg.frozen, hg.lt⟩
    rw [hg.cell]
    rw [← ht, List.getElem?_take] at hu
    split at hu
    · simpa using hu
    · cases hu
theorem Row.val (h : Row w e size v n xs) : ∃ A c, v = .slice A n c ∧ (A = none → c = 0 ∧ n = 0) := by
  rcases h.2 with ⟨rfl, rfl⟩ | ⟨g, cap, cur, rfl, _⟩
  · exact ⟨_, _, rfl, fun _ => ⟨rfl, rfl⟩⟩
  · exact ⟨_, _, rfl, fun h => by cases h⟩
/-- A store into one of the row's cells. -/
theorem Row.set_ {g cap : Nat} (h : Row w e size (.slice (some ⟨g, 0, none⟩) n cap) n xs) {j : Nat} (hj : j < n * size) (u : Value) :
    Row (w.setCell ⟨g, j, none⟩ u) e size (.slice (some ⟨g, 0, none⟩) n cap) n (xs.set j u) := by
  refine ⟨by simpa using h.1, ?_⟩
  rcases h.2 with ⟨h0, _⟩ | ⟨g', cap', cur, hv, hg, hc, hm, hs, ht⟩
  · cases h0
  · simp only [Value.slice.injEq, Option.some.injEq, Addr.mk.injEq] at hv
    obtain ⟨⟨rfl, _⟩, _, rfl⟩ := hv
    refine .inr ⟨g, cap, _, rfl, hg.set_ j u, hc, hm, by simpa using hs, ?_⟩
    rw [← ht, Array.toList_setIfInBounds, List.take_set]
/-- The first k of the row, with a capacity of k. -/
theorem Row.cut {g cap : Nat} (h : Row w e size (.slice (some ⟨g, 0, none⟩) n cap) n xs) {k : Nat} (hk : k ≤ n) :
    Row w e size (.slice (some ⟨g, 0, none⟩) k k) k (xs.take (k * size)) := by
  have hkn : k * size ≤ n * size := Nat.mul_le_mul_right _ hk
  refine ⟨by rw [List.length_take, h.1]; omega, ?_⟩
  rcases h.2 with ⟨h0, _⟩ | ⟨g', cap', cur, hv, hg, hc, hm, hs, ht⟩
  · cases h0
  · simp only [Value.slice.injEq, Option.some.injEq, Addr.mk.injEq] at hv
    obtain ⟨⟨rfl, _⟩, _, rfl⟩ := hv
    refine .inr ⟨g, k, cur, rfl, hg, Nat.le_refl _, by omega, Nat.le_trans (Nat.mul_le_mul_right _ (by omega)) hs, ?_⟩
    rw [← ht, List.take_take, Nat.min_eq_left hkn]
end

section
variable {P : Program} (w : World)
/-- append onto a row, of at least one element: the row that is there, or the block that is made now. -/
theorem run_append_row (t ty e : TypeId) (i : TypeInfo) (z : Value) (size bytes : Nat) (ht : P.underlying t = some (.slice e)) (hi : P.info? e = some i) (hz : i.zero = some z)
    (hsize : i.size = size) (hby : i.bytes = bytes) (hzs : z.cells.size = size)
    (v : Value) (n : Nat) (xs : List Value) (hr : Row w e size v n xs)
    (a : Addr) (m c : Nat) (news : List Value) (hl : news.length = m * size) (hnews : ∀ j u, news[j]? = some u → w.cell? (a.add j) = some u) (h1 : ∀ u ∈ news, u.oneCell' = true)
    (hm0 : 0 < m) (h63 : n + m ≤ maxLen) (hbytes : (n + m) * bytes ≤ 140737488355328) (H : Nat) (hH : w.heap.size = H) :
    ∃ g cap w', (Builtin.append_ #[t, t] ty #[v, .slice (some a) m c]).run P w = .ok (.slice (some ⟨g, 0, none⟩) (n + m) cap) w' ∧
      Row w' e size (.slice (some ⟨g, 0, none⟩) (n + m) cap) (n + m) (xs ++ news) ∧ w.grownBy w' v.ownBlock ∧ (v.ownBlock = some g ∨ g = H) ∧ g < w'.heap.size := by
  subst hsize
  subst hby
  subst hH
  have hsmall : n + m ≤ 9223372036854775807 := by simp only [maxLen] at h63; omega
  have hlen : (xs ++ news).length = (n + m) * i.size := by rw [List.length_append, hr.1, hl, Nat.add_mul]
  have grown : ∀ (old : Nat), old < n + m → ∀ (row : Option Nat),
      Row (w.drew.alloc (.cells (xs.toArray ++ news.toArray ++ Builtin.zeroCells z.cells (grownCap w (n + m) old e - (n + m))) e)) e i.size
        (.slice (some ⟨w.heap.size, 0, none⟩) (n + m) (grownCap w (n + m) old e)) (n + m) (xs ++ news) ∧
      w.grownBy (w.drew.alloc (.cells (xs.toArray ++ news.toArray ++ Builtin.zeroCells z.cells (grownCap w (n + m) old e - (n + m))) e)) row := by
    intro old ho row
    have hge := grownCap_ge w (n + m) old e
    have hcm : grownCap w (n + m) old e ≤ maxLen := grownCap_le_maxLen w (n + m) old e h63
    refine ⟨⟨hlen, .inr ⟨w.heap.size, _, _, rfl, heap_alloc_new w.drew _, hge, hcm, ?_, ?_⟩⟩, ⟨rfl, rfl, rfl, by simp, fun k hk _ => heap_alloc_old w.drew _ k hk⟩⟩
    · simp only [Array.size_append, List.size_toArray, size_zeroCells, hzs, hr.1, hl, ← Nat.add_mul]
      exact Nat.mul_le_mul_right _ (by omega)
    · simp only [Array.toList_append, List.append_assoc]
      rw [← List.append_assoc, ← hlen]
      exact List.take_left
  rcases hr.2 with ⟨rfl, rfl⟩ | ⟨g, cap, cur, rfl, hg, hnc, hcm, hcs, htake⟩
  · have hx : xs = [] := List.eq_nil_of_length_eq_zero (by simpa using hr.1)
    subst hx
    have hr := run_append_nil (P := P) w t ty e i z ht hi hz a m c news hl hnews (by omega) (by omega) (by have hb := hbytes; simp only [Nat.zero_add] at hb; omega)
    have hgr := grown 0 (by omega) (Value.ownBlock (.slice none 0 0))
    simp only [Nat.zero_add, List.nil_append, Array.empty_append] at hgr ⊢
    exact ⟨_, _, _, hr, hgr.1, hgr.2, .inr rfl, by simp⟩
  · by_cases hroom : n + m ≤ cap
    · have hfit : n * i.size + news.length ≤ cur.size := by rw [hl, ← Nat.add_mul]; exact Nat.le_trans (Nat.mul_le_mul_right _ hroom) hcs
      have hr := run_append_room (P := P) w t ty e i ht hi g n cap cur hg a m c news hl hnews h1 hroom hfit
      refine ⟨_, _, _, hr, ⟨hlen, .inr ⟨g, cap, _, rfl, setRow_heap w g cur _ e _ hg, hroom, hcm, ?_, ?_⟩⟩, ⟨rfl, rfl, rfl, by simp, fun k _ hk => setRow_other w g k _ (fun e => hk (by simp [Value.ownBlock, e]))⟩, .inl rfl, by have := hg.lt; simpa using this⟩
      · simp only [List.size_toArray, List.length_append, List.length_take, List.length_drop, Array.length_toList]
        omega
      · rw [htake, ← hlen]
        exact List.take_left
    · have holds : ∀ j u, xs[j]? = some u → w.cell? ((⟨g, 0, none⟩ : Addr).add j) = some u := by
        intro j u hu
        have hadd : (⟨g, 0, none⟩ : Addr).add j = ⟨g, j, none⟩ := by unfold Addr.add; split <;> simp_all
        rw [hadd, hg.cell]
        rw [← htake, List.getElem?_take] at hu
        split at hu
        · simpa using hu
        · cases hu
      have hr := run_append_grow (P := P) w t ty e i z ht hi hz ⟨g, 0, none⟩ n cap xs hr.1 holds a m c news hl hnews (by omega) (by omega) (growslice_fits (by omega) hbytes)
      have hgr := grown cap (by omega) (Value.ownBlock (.slice (some ⟨g, 0, none⟩) n cap))
      exact ⟨_, _, _, hr, hgr.1, hgr.2, .inr rfl, by simp⟩

theorem wp_append_row {o : Oper} {a : Act} {K : Act → World → Prop} {Q : Exit → Act → World → Prop} (s x : Operand) (t : TypeId)
    (ho : o.op = .call { callee := .builtin .append, args := #[s, x], argTypes := #[t, t] })
    (e : TypeId) (i : TypeInfo) (z : Value) (size bytes : Nat) (ht : P.underlying t = some (.slice e)) (hi : P.info? e = some i) (hz : i.zero = some z)
    (hsize : i.size = size) (hby : i.bytes = bytes) (hzs : z.cells.size = size)
    (v : Value) (n : Nat) (xs : List Value) (hs : a.eval s = v) (hr : Row w e size v n xs)
    (ad : Addr) (m c : Nat) (news : List Value) (hx : a.eval x = .slice (some ad) m c) (hl : news.length = m * size) (hnews : ∀ j u, news[j]? = some u → w.cell? (ad.add j) = some u) (h1 : ∀ u ∈ news, u.oneCell' = true)
    (hm : 0 < m) (h63 : n + m ≤ maxLen) (hbytes : (n + m) * bytes ≤ 140737488355328) (H : Nat) (hH : w.heap.size = H)
    (h : ∀ g cap w', Row w' e size (.slice (some ⟨g, 0, none⟩) (n + m) cap) (n + m) (xs ++ news) → w.grownBy w' v.ownBlock → (v.ownBlock = some g ∨ g = H) → g < w'.heap.size → K (a.put o.dst (.slice (some ⟨g, 0, none⟩) (n + m) cap)) w') : o.wp P a w K Q := by
  obtain ⟨g, cap, w', hrun, h2, h3, h4, h5⟩ := run_append_row (P := P) w t o.type e i z size bytes ht hi hz hsize hby hzs v n xs hr ad m c news hl hnews h1 hm h63 hbytes H hH
  unfold Oper.wp execOp
  simp only [ho, resolve, invoke, builtin, Sem.run_bind, Sem.run_pure, Result.andThen_ok, List.map_toArray, List.map_cons, List.map_nil, hs, hx, hrun]
  exact h g cap w' h2 h3 h4 h5
theorem wpList_append_row {ops : Array Oper} {rest : List Oper} {o : Oper} {a : Act} {Q : Exit → Act → World → Prop} (hgd : o.guard = none) (s x : Operand) (t : TypeId)
    (ho : o.op = .call { callee := .builtin .append, args := #[s, x], argTypes := #[t, t] })
    (e : TypeId) (i : TypeInfo) (z : Value) (size bytes : Nat) (ht : P.underlying t = some (.slice e)) (hi : P.info? e = some i) (hz : i.zero = some z)
    (hsize : i.size = size) (hby : i.bytes = bytes) (hzs : z.cells.size = size)
    (v : Value) (n : Nat) (xs : List Value) (hs : a.eval s = v) (hr : Row w e size v n xs)
    (ad : Addr) (m c : Nat) (news : List Value) (hx : a.eval x = .slice (some ad) m c) (hl : news.length = m * size) (hnews : ∀ j u, news[j]? = some u → w.cell? (ad.add j) = some u) (h1 : ∀ u ∈ news, u.oneCell' = true)
    (hm : 0 < m) (h63 : n + m ≤ maxLen) (hbytes : (n + m) * bytes ≤ 140737488355328) (H : Nat) (hH : w.heap.size = H)
    (h : ∀ g cap w', Row w' e size (.slice (some ⟨g, 0, none⟩) (n + m) cap) (n + m) (xs ++ news) → w.grownBy w' v.ownBlock → (v.ownBlock = some g ∨ g = H) → g < w'.heap.size → wpList P ops Q rest (a.put o.dst (.slice (some ⟨g, 0, none⟩) (n + m) cap)) w') : wpList P ops Q (o :: rest) a w :=
  wpList_plain hgd fun _ hK => wp_append_row w s x t ho e i z size bytes ht hi hz hsize hby hzs v n xs hs hr ad m c news hx hl hnews h1 hm h63 hbytes H hH fun g cap w' h2 h3 h4 h5 => hK _ _ (h g cap w' h2 h3 h4 h5)
theorem step_append_row {ops : Array Oper} {o : Oper} {a : Act} {K : Act → World → Prop} {Q : Exit → Act → World → Prop} {E : Prop} (hgd : o.guard = none) (s x : Operand) (t : TypeId)
    (ho : o.op = .call { callee := .builtin .append, args := #[s, x], argTypes := #[t, t] })
    (e : TypeId) (i : TypeInfo) (z : Value) (size bytes : Nat) (ht : P.underlying t = some (.slice e)) (hi : P.info? e = some i) (hz : i.zero = some z)
    (hsize : i.size = size) (hby : i.bytes = bytes) (hzs : z.cells.size = size)
    (v : Value) (n : Nat) (xs : List Value) (hs : a.eval s = v) (hr : Row w e size v n xs)
    (ad : Addr) (m c : Nat) (news : List Value) (hx : a.eval x = .slice (some ad) m c) (hl : news.length = m * size) (hnews : ∀ j u, news[j]? = some u → w.cell? (ad.add j) = some u) (h1 : ∀ u ∈ news, u.oneCell' = true)
    (hm : 0 < m) (h63 : n + m ≤ maxLen) (hbytes : (n + m) * bytes ≤ 140737488355328) (H : Nat) (hH : w.heap.size = H)
    (h : ∀ g cap w', Row w' e size (.slice (some ⟨g, 0, none⟩) (n + m) cap) (n + m) (xs ++ news) → w.grownBy w' v.ownBlock → (v.ownBlock = some g ∨ g = H) → g < w'.heap.size → K (a.put o.dst (.slice (some ⟨g, 0, none⟩) (n + m) cap)) w') :
    if Region.wanted o (yielded ops a.tmps) = true then Oper.wp P o a w K Q else E := by
  have hw : Region.wanted o (yielded ops a.tmps) = true := by simp [Region.wanted, hgd]
  rw [if_pos hw]
  exact wp_append_row w s x t ho e i z size bytes ht hi hz hsize hby hzs v n xs hs hr ad m c news hx hl hnews h1 hm h63 hbytes H hH h
end
/-- Behind an append: the new row stands apart from whatever block stood apart from the old one. -/
theorem foot_grown {v : Value} {g n c H : Nat} {S : List Nat} (hat : v.ownBlock = some g ∨ g = H) (hf : ∀ k ∈ foot v, k ∈ S) : ∀ k ∈ foot (.slice (some ⟨g, 0, none⟩) n c), k ∈ S ∨ H ≤ k := by
  intro k hk
  simp [foot_some] at hk
  subst hk
  rcases hat with h | h
  · exact .inl (hf _ (by simp [foot, h]))
  · exact .inr (by omega)
theorem row_mem {v : Value} {k : Nat} (h : v.ownBlock = some k) : k ∈ foot v := by simp [foot, h]
end Go.Proofs
end
section
namespace Go.Proofs
open Go.RowKit
set_option linter.unusedVariables false
set_option linter.unusedSimpArgs false

/-! ### Instructions, plainly -/
def u8 (n : Int) : UInt8 := UInt8.ofNat (n % 256).toNat
theorem u8_nat (c : UInt8) : u8 (c.toNat : Int) = c := by
  have := c.toNat_lt
  apply UInt8.toNat_inj.1
  unfold u8
  rw [UInt8.toNat_ofNat']
  omega
theorem u8_toNat (n : Int) : ((u8 n).toNat : Int) = n % 256 := by
  unfold u8
  rw [UInt8.toNat_ofNat']
  omega
structure Ins where
  o : UInt8
  a : UInt8
  b : UInt8
  c : UInt8
  deriving DecidableEq
def Ins.zero : Ins := ⟨0, 0, 0, 0⟩
def Ins.bytes (x : Ins) : List UInt8 := [x.o, x.a, x.b, x.c]
def Ins.num (x : Ins) : Nat := 256 * x.b.toNat + x.c.toNat
def Ins.jump (x : Ins) : Int := if 32767 < x.num then (x.num : Int) - 65536 else x.num
theorem Ins.num_lt (x : Ins) : x.num < 65536 := by
  have := x.b.toNat_lt; have := x.c.toNat_lt
  unfold Ins.num; omega
theorem Ins.jump_in (x : Ins) : -32768 ≤ x.jump ∧ x.jump ≤ 32767 := by
  have := x.num_lt
  unfold Ins.jump; split <;> omega
def Ins.is (x : Ins) : Bool :=
  if x.o.toNat = 0 ∨ x.o.toNat = 5 ∨ (17 ≤ x.o.toNat ∧ x.o.toNat ≤ 38) then true
  else if x.o.toNat = 1 ∨ x.o.toNat = 6 ∨ x.o.toNat = 7 then decide (x.a.toNat < 8)
  else decide (2 ≤ x.o.toNat ∧ x.o.toNat ≤ 4 ∧ x.a.toNat < 8 ∧ x.b.toNat < 8 ∧ x.c.toNat < 8)

abbrev wNop : List UInt8 := [110, 111, 112]
abbrev wConst : List UInt8 := [99, 111, 110, 115, 116]
abbrev wAdd : List UInt8 := [97, 100, 100]
abbrev wSub : List UInt8 := [115, 117, 98]
abbrev wMul : List UInt8 := [109, 117, 108]
abbrev wJump : List UInt8 := [106, 117, 109, 112]
abbrev wZero : List UInt8 := [122, 101, 114, 111]
abbrev wCode : List UInt8 := [99, 111, 100, 101]
abbrev wCall : List UInt8 := [99, 97, 108, 108]
abbrev wRaw : List UInt8 := [114, 97, 119]
/-! ### The code's forms -/
def formsL : List (UInt8 × List UInt8 × List UInt8) :=
  [(0, wNop, []), (1, wConst, [65, 78]), (2, wAdd, [65, 66, 67]), (3, wSub, [65, 66, 67]), (4, wMul, [65, 66, 67]), (5, wJump, [68]), (6, wZero, [65, 68]), (7, wCode, [65]), (17, wCall, [75])]
def formAt (o : UInt8) : Option (List UInt8 × List UInt8) := (formsL.find? fun e => e.1 == o).map (·.2)
def formP (o : UInt8) : Option (List UInt8 × List UInt8) := formAt (if 17 < o.toNat ∧ o.toNat ≤ 38 then 17 else o)
def Ins.named (x : Ins) (l : UInt8) : Int :=
  if l = 65 then x.a.toNat else if l = 66 then x.b.toNat else if l = 67 then x.c.toNat else if l = 78 then x.num else if l = 68 then x.jump else ((x.o.toNat : Int) - 16) % 256
def noReg (x : Ins) (l : UInt8) : Bool := (l == 65 || l == 66 || l == 67) && decide (8 ≤ x.named l)
def isOneP (x : Ins) : Bool := match formP x.o with
  | none => false
  | some f => f.2.all fun l => !noReg x l
theorem ofN {o : UInt8} {n : Nat} (h : o.toNat = n) : o = UInt8.ofNat n := by
  apply UInt8.toNat_inj.1
  have := o.toNat_lt
  rw [UInt8.toNat_ofNat']; omega
theorem kinds (o : UInt8) : (o = 0 ∨ o = 1 ∨ o = 2 ∨ o = 3 ∨ o = 4 ∨ o = 5 ∨ o = 6 ∨ o = 7 ∨ (17 ≤ o.toNat ∧ o.toNat ≤ 38)) ∨ ((8 ≤ o.toNat ∧ o.toNat < 17) ∨ 38 < o.toNat) := by
  have := o.toNat_lt
  by_cases h : o.toNat < 8
  · left
    have : o.toNat = 0 ∨ o.toNat = 1 ∨ o.toNat = 2 ∨ o.toNat = 3 ∨ o.toNat = 4 ∨ o.toNat = 5 ∨ o.toNat = 6 ∨ o.toNat = 7 := by omega
    rcases this with h | h | h | h | h | h | h | h
    · exact .inl (ofN h)
    · exact .inr (.inl (ofN h))
    · exact .inr (.inr (.inl (ofN h)))
    · exact .inr (.inr (.inr (.inl (ofN h))))
    · exact .inr (.inr (.inr (.inr (.inl (ofN h)))))
    · exact .inr (.inr (.inr (.inr (.inr (.inl (ofN h))))))
    · exact .inr (.inr (.inr (.inr (.inr (.inr (.inl (ofN h)))))))
    · exact .inr (.inr (.inr (.inr (.inr (.inr (.inr (.inl (ofN h))))))))
  · by_cases h2 : 17 ≤ o.toNat ∧ o.toNat ≤ 38
    · exact .inl (.inr (.inr (.inr (.inr (.inr (.inr (.inr (.inr h2))))))))
    · right; omega
theorem form_call {o : UInt8} (h : 17 ≤ o.toNat ∧ o.toNat ≤ 38) : formP o = some (wCall, [75]) := by
  unfold formP
  by_cases h17 : 17 < o.toNat ∧ o.toNat ≤ 38
  · rw [if_pos h17]; rfl
  · rw [if_neg h17]
    have : o = 17 := ofN (n := 17) (by omega)
    subst this; rfl
theorem form_none {o : UInt8} (h : (8 ≤ o.toNat ∧ o.toNat < 17) ∨ 38 < o.toNat) : formP o = none := by
  unfold formP formAt
  rw [if_neg (by omega)]
  have ne : ∀ k : UInt8, k.toNat < 8 ∨ k.toNat = 17 → (k == o) = false := fun k hk => by
    rw [beq_eq_false_iff_ne]; intro e; subst e; omega
  simp [formsL, List.find?_cons, ne 0 (.inl (by decide)), ne 1 (.inl (by decide)), ne 2 (.inl (by decide)), ne 3 (.inl (by decide)), ne 4 (.inl (by decide)), ne 5 (.inl (by decide)), ne 6 (.inl (by decide)), ne 7 (.inl (by decide)), ne 17 (.inr (by decide))]
theorem ge8 (n : Nat) : decide ((8 : Int) ≤ (n : Int)) = !decide (n < 8) := by
  by_cases h : n < 8
  · simp [h]; omega
  · simp [h]; omega
theorem isOne_is (x : Ins) : isOneP x = x.is := by
  obtain ⟨o, a, b, c⟩ := x
  have hn := Ins.num_lt ⟨o, a, b, c⟩
  rcases kinds o with (rfl | rfl | rfl | rfl | rfl | rfl | rfl | rfl | h) | h
  · rfl
  · simp [isOneP, Ins.is, formP, formAt, formsL, noReg, Ins.named, ge8]
  · simp [isOneP, Ins.is, formP, formAt, formsL, noReg, Ins.named, ge8]
  · simp [isOneP, Ins.is, formP, formAt, formsL, noReg, Ins.named, ge8]
  · simp [isOneP, Ins.is, formP, formAt, formsL, noReg, Ins.named, ge8]
  · simp [isOneP, Ins.is, formP, formAt, formsL, noReg, Ins.named, ge8]
  · simp [isOneP, Ins.is, formP, formAt, formsL, noReg, Ins.named, ge8]
  · simp [isOneP, Ins.is, formP, formAt, formsL, noReg, Ins.named, ge8]
  · simp only [isOneP, form_call h]
    simp [Ins.is, noReg, h]
  · simp only [isOneP, form_none h]
    simp only [Ins.is]
    rw [if_neg (by omega), if_neg (by omega)]
    simp; omega
end Go.Proofs
end
