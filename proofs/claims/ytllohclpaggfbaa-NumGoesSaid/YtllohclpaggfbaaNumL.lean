import Derived.Test.YtllohclpaggfbaaNumJ
import Derived.Test.YtllohclpaggfbaaNumF
import Derived.Sort.LoopGhostIn
import Derived.Outline
namespace Go.Proofs
open Go.RowKit Go.Shelf
set_option linter.unusedVariables false
attribute [local go_sem] Oper.semAt_some

theorem Held.lt {W : World} {b : Nat} {v : Value} (h : Held W b v) : b < W.heap.size := by
  rcases Nat.lt_or_ge b W.heap.size with hl | hl
  · exact hl
  · have := h.1; simp [World.cell?, Array.getElem?_eq_none hl] at this
theorem run_eql_nilFunc (c : Array Value) (f : FuncId) (w : World) : (binOp BinOp.eql 39 (Value.func (Fn.func f) #[] c) Value.nilFunc).run Try.prog w = .ok (.bool false) w := by
  kernel_rfl
attribute [local go_sem] run_eql_nilFunc

def marks (Ds : List Nat) : List Deferred := Ds.map fun D => { target := .collected D, args := #[] }
/-- The loops' blocks for deferred calls: each its own, beyond B, and none holds a call. -/
def Marks (B : Nat) (W : World) (Ds : List Nat) : Prop := Ds.Nodup ∧ ∀ D ∈ Ds, B ≤ D ∧ W.heap[D]? = some (.deferred (some []))
theorem Marks.lt {B : Nat} {W : World} {Ds : List Nat} (h : Marks B W Ds) : ∀ D ∈ Ds, D < W.heap.size := fun D hD => (Array.getElem?_eq_some_iff.1 (h.2 D hD).2).1
theorem Marks.others {B : Nat} {W W' : World} {Ds : List Nat} (h : Marks B W Ds) (hk : KeepsOthers W W') : Marks B W' Ds := ⟨h.1, fun D hD => ⟨(h.2 D hD).1, hk.same D _ (h.2 D hD).2 rfl⟩⟩
theorem Marks.kept {B C : Nat} {W W' : World} {Ds : List Nat} {row : Option Nat} (h : Marks B W Ds) (hC : ∀ D ∈ Ds, D < C) (hg : W.grownBy W' row) (hr : ∀ r, row = some r → C ≤ r) : Marks B W' Ds :=
  ⟨h.1, fun D hD => ⟨(h.2 D hD).1, (hg.block D (h.lt D hD) (fun e => by have := hr D e.symm; have := hC D hD; omega)).trans (h.2 D hD).2⟩⟩
theorem Marks.cons {B C D : Nat} {W : World} {Ds : List Nat} (h : Marks B W Ds) (hC : ∀ D ∈ Ds, D < C) (hBC : B ≤ C) (hD : C ≤ D) (hK : W.heap[D]? = some (.deferred (some []))) : Marks B W (D :: Ds) :=
  ⟨List.nodup_cons.2 ⟨fun hm => by have := hC D hm; omega, h.1⟩, fun E hE => by
    rcases List.mem_cons.1 hE with rfl | hE
    · exact ⟨by omega, hK⟩
    · exact h.2 E hE⟩

/-- A function leaves by its marks: each is shut in turn; nothing that lay below B is changed. -/
theorem leaves_marks {fn : Func} {tmps : Array Value} {R : Ending → World → Prop} {B b : Nat} {v : Value} {w0 : World} (hw0 : B ≤ w0.heap.size)
    (h : ∀ W, Below B w0 W → Held W b v → LeavesIn Fence.wide 3 Try.prog fn tmps R [] .returning W) :
    ∀ (Ds : List Nat) (W : World), Marks B W Ds → Below B w0 W → Held W b v → LeavesInM Fence.wide 3 Try.prog fn tmps R (marks Ds) .returning W := by
  intro Ds
  induction Ds with
  | nil => intro W _ hB hH; exact h W hB hH
  | cons D Ds ih =>
    intro W hM hB hH
    have hD := hM.2 D (by simp)
    have hlt := (Array.getElem?_eq_some_iff.1 hD.2).1
    refine ⟨by simp, .inl ⟨_, _, rfl, run_takeDeferred hD.2, ?_⟩⟩
    refine ih _ ⟨(List.nodup_cons.1 hM.1).2, fun E hE => ⟨(hM.2 E (by simp [hE])).1, ?_⟩⟩ (hB.grown (grownBy_putObj' W D _) (by have := hB.size; omega) (fun k e => by cases e; exact hD.1)) (hH.kept (grownBy_putObj' W D (.deferred none)) (fun r e => by cases e; exact ⟨_, hD.2, rfl⟩))
    exact (World.putObj_heap_other (fun e => (List.nodup_cons.1 hM.1).1 (by subst e; exact hE))).trans (hM.2 E (by simp [hE])).2

/-- What holds between two turns. -/
def Turn (Wb : World) (T : Int) (b13 : Nat) (Ds : List Nat) (W : World) : Prop := 0 ≤ T ∧ T ≤ 2 ∧ Wb.heap.size ≤ b13 ∧ Held W b13 (.int .i64 T) ∧ Marks Wb.heap.size W Ds ∧ Below Wb.heap.size Wb W
/-- What holds between two rounds. -/
def Goes (s : Int) (Wb : World) (T : Int) (b13 b14 : Nat) (Ds : List Nat) (pre : List Int) (W : World) : Prop :=
  pre <+: allL s ∧ Held W b14 (.int .i64 (pre.length : Nat)) ∧ Held W b13 (.int .i64 T) ∧ Marks Wb.heap.size W Ds ∧ Below Wb.heap.size Wb W
def Left (s lv : Int) (Wb : World) (T : Int) (b13 b14 : Nat) (Ds : List Nat) (c : Code) (pre : List Int) (W : World) : Prop :=
  (c = .exit 2 ∧ T = 0 ∧ (pre.length : Int) = lv ∧ Goes s Wb T b13 b14 Ds pre W) ∨ (c = .ret ∧ ¬ pre <+: allL s)
theorem goes_own {s : Int} {Wb : World} {T : Int} {b13 b14 C : Nat} {Ds : List Nat} (hC : ∀ D ∈ Ds, D < C) (hw : Wb.heap.size ≤ C) : OwnFrom C (Goes s Wb T b13 b14 Ds) := by
  rintro pre A B row ⟨h1, h2, h3, h4, h5⟩ hg hr
  exact ⟨h1, h2.kept hg (fun r e => (hr r e).2), h3.kept hg (fun r e => (hr r e).2), h4.kept hC hg (fun r e => (hr r e).1), h5.grown hg h5.size (fun k e => Nat.le_trans hw (hr k e).1)⟩
theorem left_own {s lv : Int} {Wb : World} {T : Int} {b13 b14 C : Nat} {Ds : List Nat} (hC : ∀ D ∈ Ds, D < C) (hw : Wb.heap.size ≤ C) (c : Code) : OwnFrom C (Left s lv Wb T b13 b14 Ds c) := by
  rintro pre A B row h hg hr
  rcases h with ⟨h1, h2, h3, h4⟩ | h
  · exact .inl ⟨h1, h2, h3, goes_own hC hw pre A B row h4 hg hr⟩
  · exact .inr h
theorem pre_yes {l pre : List Int} {x : Int} (h : pre <+: l) (hl : pre.length < l.length) (hx : x = l[pre.length]?.getD 0) : pre ++ [x] <+: l := by
  obtain ⟨t, rfl⟩ := h
  cases t with
  | nil => simp at hl
  | cons y t => simp at hx; subst hx; exact ⟨t, by simp⟩
theorem pre_no {l pre : List Int} {x : Int} (hx : x ≠ l[pre.length]?.getD 0) : ¬ pre ++ [x] <+: l := by
  rintro ⟨t, rfl⟩
  exact hx (by simp)
theorem pre_len {l pre : List Int} {x : Int} (hl : ¬ pre.length < l.length) : ¬ pre ++ [x] <+: l := fun h => by have := h.length_le; simp at this; omega

theorem ex_frame {x0 x1 x2 x3 x4 x5 x6 x7 x8 x9 x10 x11 x12 x13 x14 x15 x16 x17 x18 x19 x20 x21 x22 x23 x24 x25 x26 x27 x28 x29 x30 x31 x32 x33 x34 x35 x36 x37 x38 x39 x40 x41 x42 x43 x44 x45 x46 x47 x48 x49 x50 x51 x52 x53 x54 x55 x56 x57 x58 x59 x60 x61 x62 x63 x64 x65 x66 x67 x68 x69 x70 x71 x72 x73 x74 x75 x76 x77 x78 x79 x80 x81 x82 x83 : Value} {ds : List Deferred} {p q : Prop} (hp : p) (hq : q) :
    ∃ u : Nat → Value, p ∧ ({ tmps := #[x0, x1, x2, x3, x4, x5, x6, x7, x8, x9, x10, x11, x12, x13, x14, x15, x16, x17, x18, x19, x20, x21, x22, x23, x24, x25, x26, x27, x28, x29, x30, x31, x32, x33, x34, x35, x36, x37, x38, x39, x40, x41, x42, x43, x44, x45, x46, x47, x48, x49, x50, x51, x52, x53, x54, x55, x56, x57, x58, x59, x60, x61, x62, x63, x64, x65, x66, x67, x68, x69, x70, x71, x72, x73, x74, x75, x76, x77, x78, x79, x80, x81, x82, x83], defers := ds } : Act) = { tmps := #[x0, x1, x2, u 3, u 4, x5, x6, u 7, u 8, u 9, u 10, x11, x12, x13, u 14, u 15, u 16, u 17, u 18, u 19, u 20, u 21, u 22, u 23, u 24, u 25, u 26, u 27, u 28, u 29, u 30, u 31, u 32, u 33, u 34, u 35, u 36, u 37, u 38, u 39, u 40, u 41, u 42, u 43, u 44, u 45, u 46, u 47, u 48, u 49, u 50, u 51, u 52, u 53, u 54, u 55, u 56, u 57, u 58, u 59, u 60, u 61, u 62, u 63, u 64, u 65, u 66, u 67, u 68, u 69, u 70, u 71, u 72, u 73, u 74, u 75, u 76, u 77, u 78, u 79, u 80, u 81, u 82, u 83], defers := ds } ∧ q :=
  ⟨fun i => #[x0, x1, x2, x3, x4, x5, x6, x7, x8, x9, x10, x11, x12, x13, x14, x15, x16, x17, x18, x19, x20, x21, x22, x23, x24, x25, x26, x27, x28, x29, x30, x31, x32, x33, x34, x35, x36, x37, x38, x39, x40, x41, x42, x43, x44, x45, x46, x47, x48, x49, x50, x51, x52, x53, x54, x55, x56, x57, x58, x59, x60, x61, x62, x63, x64, x65, x66, x67, x68, x69, x70, x71, x72, x73, x74, x75, x76, x77, x78, x79, x80, x81, x82, x83].getD i undef, hp, rfl, hq⟩
theorem Goes.next {s : Int} {Wb : World} {T : Int} {b13 b14 : Nat} {Ds : List Nat} {pre : List Int} {V : World} {x : Int} (h : Goes s Wb T b13 b14 Ds pre V) (hy : pre ++ [x] <+: allL s) (hne : b13 ≠ b14) (hb : Wb.heap.size ≤ b14) :
    Goes s Wb T b13 b14 Ds (pre ++ [x]) (V.setCell ⟨b14, 0, none⟩ (.int .i64 ((pre.length : Int) + 1))) := by
  obtain ⟨h1, h2, h3, h4, h5⟩ := h
  refine ⟨hy, ?_, h3.other _ hne, h4.others (KeepsOthers.setCell _ _ _), h5.setCell (p := ⟨b14, 0, none⟩) hb _⟩
  have := h2.set (.int .i64 ((pre.length : Int) + 1))
  simpa using this
/-- The turn's box is laid anew, and one more is stored into it. -/
theorem Turn.next {Wb V : World} {T : Int} {b13 C D : Nat} {Ds : List Nat} (T0 : 0 ≤ T) (T1 : T < 2) (hM : Marks Wb.heap.size V Ds) (hB : Below Wb.heap.size Wb V) (hC : ∀ D ∈ Ds, D < C) (hBC : Wb.heap.size ≤ C) (hD : C ≤ D) (hK : V.heap[D]? = some (.deferred (some []))) :
    Turn Wb (T + 1) V.heap.size (D :: Ds) (V.alloc (.cells #[.int .i64 (T + 1)] 3)) := by
  refine ⟨by omega, by omega, hB.size, Held.new V (.int .i64 (T + 1)) 3, ?_, hB.alloc hB.size _⟩
  exact (hM.cons hC hBC hD hK).others (KeepsOthers.alloc _ _)

set_option maxRecDepth 100000 in
set_option maxHeartbeats 4000000 in
theorem goes_any (s n lv : Int) (s0 : 0 ≤ s) (s1 : s < 256) (n0 : -9223372036854775808 ≤ n) (n1 : n ≤ 9223372036854775807) (l0 : -9223372036854775808 ≤ lv) (l1 : lv ≤ 9223372036854775807) (w : World) :
    Calls Try.prog 7 #[.int .u8 s, .int .i64 n, .int .i64 lv] w fun e W' => e = .returned (.bool true) ∧ Below w.heap.size w W' := by
  refine (callsIn_wide (n := 3)).1 ?_
  refine callsIn_of_wp_marks Try.func7 rfl trivial ?_ rfl
  have hl8 := len_allL s
  simp only [Try.ntmps7, List.size_toArray, List.length_cons, List.length_nil, Nat.reduceAdd, Nat.reduceSub, Array.replicate_succ, Array.replicate_zero, List.push_toArray, List.append_toArray, List.nil_append, List.cons_append]
  obtain ⟨m, hm⟩ : ∃ m, m = (allL s).length := ⟨_, rfl⟩
  have hA := fun w => ref_all s s0 s1 w
  gi_wp2_with (first
    | (refine ⟨trivial, ?_⟩; gi_at_call 26; refine (callsIn_wide.2 (nth_any s n s0 s1 _)).mono ?_; rintro e w1 ⟨rfl, hb1⟩)
    | (refine ⟨trivial, ?_⟩; gi_at_call 27; refine (callsIn_wide.2 (ref_nth s n s0 s1 n0 n1 _)).mono ?_; rintro e w2 ⟨rfl, hb2⟩)
    | (refine ⟨trivial, ?_⟩; gi_at_call 18; refine (callsIn_wide.2 (hA _)).mono ?_; rintro e w3 ⟨v, rfl, ⟨A, c, rfl, hn, hc⟩, hb3⟩; rw [← hm] at hc hl8 ⊢)
    | (refine ⟨trivial, ?_⟩; gi_at_call 28; refine (callsIn_wide.2 (all_any s _)).mono ?_; rintro e w4 ⟨rfl, rfl⟩))
  obtain ⟨Wb, hWb⟩ : ∃ Wb, Wb = (w3.alloc (.cells #[.slice A (allL s).length c] 28)).alloc (.cells #[.int .u8 s] 5) := ⟨_, rfl⟩
  have z1 := hb1.size
  have z2 := hb2.size
  have z3 := hb3.size
  simp only [World.size_alloc] at z1
  have zb : Wb.heap.size = w3.heap.size + 1 + 1 := by rw [hWb]; simp
  have hbb : Below w3.heap.size w3 Wb := by rw [hWb]; exact ((Below.refl _ _).alloc (Nat.le_refl _) _).alloc (by simp) _
  have hB0 : Below w.heap.size w ((w.alloc (.cells #[.int .i64 lv] 3)).alloc (.cells #[.bool false] 4)) := ((Below.refl _ w).alloc (Nat.le_refl _) _).alloc (by simp) _
  have hBb1 : Below (w.heap.size + 1 + 1) ((w.alloc (.cells #[.int .i64 lv] 3)).alloc (.cells #[.bool false] 4)) Wb := by
    have q1 := hb1; simp only [World.size_alloc] at q1
    exact q1.trans ((hb2.mono (by omega)).trans ((hb3.mono (by omega)).trans (hbb.mono (by omega))))
  have hBw : Below w.heap.size w Wb := hB0.trans (hBb1.mono (by omega))
  have e5 : Held Wb w.heap.size (.int .i64 lv) := by
    have h := (Held.new w (.int .i64 lv) 3).alloc (.cells #[.bool false] 4)
    exact ⟨(hBb1.cell (p := ⟨w.heap.size, 0, none⟩) (by simp; omega)).trans h.1, (hBb1.frozen (p := ⟨w.heap.size, 0, none⟩) (by simp; omega)).trans h.2⟩
  have e6 : Held Wb (w.heap.size + 1) (.bool false) := by
    have h := Held.new (w.alloc (.cells #[.int .i64 lv] 3)) (.bool false) 4
    simp only [World.size_alloc] at h
    exact ⟨(hBb1.cell (p := ⟨w.heap.size + 1, 0, none⟩) (by simp)).trans h.1, (hBb1.frozen (p := ⟨w.heap.size + 1, 0, none⟩) (by simp)).trans h.2⟩
  have e11 : Held Wb w3.heap.size (.slice A (allL s).length c) := by rw [hWb]; exact (Held.new w3 _ 28).alloc _
  have eA : Held Wb (w3.heap.size + 1) (.int .u8 s) := by
    have h := Held.new (w3.alloc (.cells #[.slice A (allL s).length c] 28)) (.int .u8 s) 5
    simp only [World.size_alloc] at h
    rw [hWb]; exact h
  have hc' : ∀ k, k < m → ∃ g, A = some ⟨g, 0, none⟩ ∧ g < Wb.heap.size ∧ Wb.cell? ⟨g, k, none⟩ = some (.int .i64 ((allL s)[k]?.getD 0)) := fun k hk => by
    obtain ⟨g, h1, h2, h3⟩ := hc k hk
    exact ⟨g, h1, by omega, (hbb.cell (p := ⟨g, k, none⟩) h2).trans h3⟩
  rw [← hWb]
  have HC := Lib.hid hc'
  clear hc hc' hbb hb1 hb2 hb3 hB0 hWb hn hA hBb1
  obtain ⟨b5, hb5⟩ : ∃ b5, b5 = w.heap.size := ⟨_, rfl⟩
  obtain ⟨b6, hb6⟩ : ∃ b6, b6 = w.heap.size + 1 := ⟨_, rfl⟩
  obtain ⟨b11, hb11⟩ : ∃ b11, b11 = w3.heap.size := ⟨_, rfl⟩
  obtain ⟨bA, hbA⟩ : ∃ bA, bA = w3.heap.size + 1 := ⟨_, rfl⟩
  rw [← hb5] at e5
  rw [← hb6] at e6
  rw [← hb11] at e11
  rw [← hbA] at eA
  have t5 : b5 < Wb.heap.size := by omega
  have t6 : b6 < Wb.heap.size := by omega
  have t11 : b11 < Wb.heap.size := by omega
  have tA : bA < Wb.heap.size := by omega
  have g6 : w.heap.size ≤ b6 := by omega
  rw [← hm] at e11
  have Hb : Hid (b5 = w.heap.size ∧ b6 = w.heap.size + 1 ∧ b11 = w3.heap.size ∧ bA = w3.heap.size + 1 ∧ Wb.heap.size = w3.heap.size + 1 + 1) := Lib.hid ⟨hb5, hb6, hb11, hbA, zb⟩
  have Hm := Lib.hid hm
  clear hb5 hb6 hb11 hbA zb hm
  refine wpIn_loop_ghost_k (fun j a' W => ∃ (T : Int) (b13 : Nat) (Ds : List Nat) (u : Nat → Value), j = (2 - T).toNat ∧ a' = { tmps := #[.int .u8 s, .int .i64 n, .int .i64 lv, u 3, u 4, .pointer (some ⟨b5, 0, none⟩), .pointer (some ⟨b6, 0, none⟩), u 7, u 8, u 9, u 10, .pointer (some ⟨b11, 0, none⟩), .func (.func 38) #[] #[.pointer (some ⟨bA, 0, none⟩)], .pointer (some ⟨b13, 0, none⟩), u 14, u 15, u 16, u 17, u 18, u 19, u 20, u 21, u 22, u 23, u 24, u 25, u 26, u 27, u 28, u 29, u 30, u 31, u 32, u 33, u 34, u 35, u 36, u 37, u 38, u 39, u 40, u 41, u 42, u 43, u 44, u 45, u 46, u 47, u 48, u 49, u 50, u 51, u 52, u 53, u 54, u 55, u 56, u 57, u 58, u 59, u 60, u 61, u 62, u 63, u 64, u 65, u 66, u 67, u 68, u 69, u 70, u 71, u 72, u 73, u 74, u 75, u 76, u 77, u 78, u 79, u 80, u 81, u 82, u 83], defers := marks Ds } ∧ Turn Wb T b13 Ds W) 2 ?start ?round
  case start =>
    refine ⟨0, Wb.heap.size, [], fun i => #[undef, undef, undef, undef, undef, undef, undef, (.int .i64 (nthV s n) : Value), (.bool (nthB s n) : Value), (.int .i64 (nthV s n) : Value), (.bool (nthB s n) : Value), undef, undef, undef, undef, undef, (.tuple #[.int .i64 (nthV s n), .bool (nthB s n)] : Value), (.int .u8 s : Value), (.int .i64 n : Value), (.tuple #[.int .i64 (nthV s n), .bool (nthB s n)] : Value), (.int .i64 (nthV s n) : Value), (.bool (nthB s n) : Value), (.tuple #[.int .i64 (nthV s n), .bool (nthB s n)] : Value), (.int .u8 s : Value), (.int .i64 n : Value), (.tuple #[.int .i64 (nthV s n), .bool (nthB s n)] : Value), (.int .i64 (nthV s n) : Value), (.bool (nthB s n) : Value), (.int .i64 (nthV s n) : Value), (.int .i64 (nthV s n) : Value), (.bool false : Value), (.bool false : Value), (.bool (nthB s n) : Value), (.bool (nthB s n) : Value), (.bool false : Value), (.bool false : Value), (.int .u8 s : Value), (.slice A (allL s).length c : Value), (.int .u8 s : Value), (.func (.func 38) #[] #[.pointer (some ⟨bA, 0, none⟩)] : Value), (.func (.func 38) #[] #[.pointer (some ⟨bA, 0, none⟩)] : Value), (.bool false : Value), undef, undef, undef, undef, undef, undef, undef, undef, undef, undef, undef, undef, undef, undef, undef, undef, undef, undef, undef, undef, undef, undef, undef, undef, undef, undef, undef, undef, undef, undef, undef, undef, undef, undef, undef, undef, undef, undef, undef, undef, undef, undef].getD i undef, rfl, ?_, by omega, by omega, Nat.le_refl _, Held.new Wb _ 3, ⟨List.nodup_nil, fun D h => by cases h⟩, (Below.refl _ _).alloc (Nat.le_refl _) _⟩
    obtain ⟨hb5, hb6, hb11, hbA, zb⟩ := Hb.out
    rw [hb5, hb6, hb11, hbA, zb]
    rfl
  case round =>
    rintro j a' W ⟨T, b13, Ds, u, rfl, rfl, T0, T2, hb13, h13, hM, hB⟩ J K hJ hK
    have zW := hB.size
    have a13 := h13.1
    have f13 := h13.2
    have hDs := hM.lt
    have lt13 := h13.lt
    by_cases hT : T < 2
    · gi_wp2
      have c14 := Held.new W (.int .i64 0) 3
      have hBn : Below Wb.heap.size Wb (W.alloc (.cells #[.int .i64 0] 3)) := hB.alloc hB.size _
      refine wpIn_rangeFunc_ownF rfl (by omega) (gf := 38) (lb := #[.pointer (some ⟨bA, 0, none⟩)]) rfl trivial (enters_of Try.func38 (by kernel_rfl) rfl)
        (all_stops (3 - 1) (by omega) bA s s0 s1 _ (by simp; omega) ((hBn.cell (p := ⟨bA, 0, none⟩) tA).trans eA.1)) (fun h h' => h'.trans h) (cellK_b (by simp; omega)) (Below.refl _ _) (fun _ => rfl)
        (Goes s Wb T b13 W.heap.size Ds) (Left s lv Wb T b13 W.heap.size Ds)
        (goes_own (fun D hD => by have := hDs D hD; simp; omega) (by simp; omega)) (left_own (fun D hD => by have := hDs D hD; simp; omega) (by simp; omega))
        ⟨List.nil_prefix, c14, h13.alloc _, hM.others (KeepsOthers.alloc _ _), hBn⟩
        (fun x => { tmps := #[.int .u8 s, .int .i64 n, .int .i64 lv, u 3, u 4, .pointer (some ⟨b5, 0, none⟩), .pointer (some ⟨b6, 0, none⟩), u 7, u 8, u 9, u 10, .pointer (some ⟨b11, 0, none⟩), .func (.func 38) #[] #[.pointer (some ⟨bA, 0, none⟩)], .pointer (some ⟨b13, 0, none⟩), .pointer (some ⟨W.heap.size, 0, none⟩), .int .i64 x, u 16, u 17, u 18, u 19, u 20, u 21, u 22, u 23, u 24, u 25, u 26, u 27, u 28, u 29, u 30, u 31, u 32, u 33, u 34, u 35, u 36, u 37, u 38, u 39, u 40, u 41, .int .i64 T, .bool true, u 44, u 45, .func (.func 38) #[] #[.pointer (some ⟨bA, 0, none⟩)], .int .i64 x, u 48, u 49, u 50, u 51, u 52, u 53, u 54, u 55, u 56, u 57, u 58, u 59, u 60, u 61, u 62, u 63, u 64, u 65, u 66, u 67, u 68, u 69, u 70, u 71, u 72, u 73, u 74, u 75, u 76, u 77, u 78, u 79, u 80, u 81, u 82, u 83], defers := [] }) ?assign ?body ?done ?stop
      case assign =>
        intro l x V K2 hK2
        gi_wp2
        exact hK2
      case body =>
        rintro l pre x V hG hlen
        have hpre := hG.1
        have a13 := hG.2.2.1.1
        have a14 := hG.2.1.1
        have f14 := hG.2.1.2
        have kB := hG.2.2.2.2
        have a11 : V.cell? ⟨b11, 0, none⟩ = some (.slice A m c) := (kB.cell (p := ⟨b11, 0, none⟩) t11).trans e11.1
        have a5 : V.cell? ⟨b5, 0, none⟩ = some (.int .i64 lv) := (kB.cell (p := ⟨b5, 0, none⟩) t5).trans e5.1
        have a6 : V.cell? ⟨b6, 0, none⟩ = some (.bool false) := (kB.cell (p := ⟨b6, 0, none⟩) t6).trans e6.1
        have f6 : V.frozen? ⟨b6, 0, none⟩ = false := (kB.frozen (p := ⟨b6, 0, none⟩) t6).trans e6.2
        by_cases hlt : pre.length < m
        · obtain ⟨g, rfl, hg, hcell⟩ := HC.out pre.length hlt
          have ax : V.cell? ⟨g, pre.length, none⟩ = some (.int .i64 ((allL s)[pre.length]?.getD 0)) := (kB.cell (p := ⟨g, pre.length, none⟩) hg).trans hcell
          obtain ⟨y, hy⟩ : ∃ y, y = (allL s)[pre.length]?.getD 0 := ⟨_, rfl⟩
          rw [← hy] at ax
          have HY := Lib.hid hy
          clear hcell hy
          by_cases hxy : x = y
          · subst hxy
            have HP := Lib.hid (pre_yes hpre (by rw [← Hm.out]; exact hlt) HY.out)
            have HG := Lib.hid (hG.next HP.out (by omega : b13 ≠ W.heap.size) zW)
            have HK : Hid (V.cell? ⟨bA, 0, none⟩ = some (.int .u8 s)) := Lib.hid ((kB.cell (p := ⟨bA, 0, none⟩) tA).trans eA.1)
            clear hG hpre kB
            rcases (by omega : T = 0 ∨ T = 1) with rfl | rfl
            · by_cases hl : (pre.length : Int) + 1 = lv
              · have hlb : ((pre.length : Int) + 1 == lv) = true := by simpa using hl
                have HL := Lib.hid hl
                clear hl
                gi_wp2
                exact ⟨KeepsOthers.setCell _ _ _, .inl ⟨rfl, rfl, by simpa using HL.out, HG.out⟩⟩
              · have hlb : ((pre.length : Int) + 1 == lv) = false := by simpa using hl
                clear hl
                gi_wp2
                exact ⟨KeepsOthers.setCell _ _ _, World.cell?_of_block (w := V) (Below.heap_setCell V ⟨W.heap.size, 0, none⟩ _ _ (by simp; omega)), HG.out⟩
            · gi_wp2
              exact ⟨KeepsOthers.setCell _ _ _, World.cell?_of_block (w := V) (Below.heap_setCell V ⟨W.heap.size, 0, none⟩ _ _ (by simp; omega)), HG.out⟩
          · have hb : (x != y) = true := by simpa using hxy
            have HN := Lib.hid (pre_no (x := x) (pre := pre) (l := allL s) (by rw [← HY.out]; exact hxy))
            clear hxy hG hpre kB
            gi_wp2
            exact ⟨KeepsOthers.setCell _ _ _, .inr ⟨rfl, HN.out⟩⟩
        · have HN := Lib.hid (pre_len (x := x) (pre := pre) (l := allL s) (by rw [← Hm.out]; exact hlt))
          clear hG hpre kB
          gi_wp2
          exact ⟨KeepsOthers.setCell _ _ _, .inr ⟨rfl, HN.out⟩⟩
      case done =>
        rintro D ys V hD rfl ⟨hpre, h14, k13, kM, kB⟩ hKD
        rw [← Hm.out] at h14
        have a13 := k13.1
        have a14 := h14.1
        have a11 : V.cell? ⟨b11, 0, none⟩ = some (.slice A m c) := (kB.cell (p := ⟨b11, 0, none⟩) t11).trans e11.1
        have HT := Lib.hid (Turn.next (b13 := b13) T0 hT kM kB hDs zW (by simp at hD; omega : W.heap.size ≤ D) hKD)
        clear hpre hKD
        gi_wp2
        refine Handed.intro (2 - (T + 1)).toNat (by omega) (hJ _ _ _ ⟨T + 1, V.heap.size, D :: Ds, ex_frame rfl HT.out⟩)
      case stop =>
        rintro D c' pre V hD hpre (⟨rfl, rfl, hlv, _, h14, k13, kM, kB⟩ | ⟨rfl, hno⟩) hKD
        · subst hlv
          have a13 := k13.1
          have a14 := h14.1
          have a11 : V.cell? ⟨b11, 0, none⟩ = some (.slice A m c) := (kB.cell (p := ⟨b11, 0, none⟩) t11).trans e11.1
          have a5 : V.cell? ⟨b5, 0, none⟩ = some (.int .i64 (pre.length : Nat)) := (kB.cell (p := ⟨b5, 0, none⟩) t5).trans e5.1
          have HT := Lib.hid (Turn.next (b13 := b13) T0 hT kM kB hDs zW (by simp at hD; omega : W.heap.size ≤ D) hKD)
          have hlm : pre.length ≤ m := by rw [Hm.out]; exact hpre.length_le
          clear hpre hKD
          by_cases he : pre.length = m
          · have hb : ((pre.length : Int) != m) = false := by simp; omega
            clear he
            gi_wp2
            refine Handed.intro 1 (by decide) (hJ _ _ _ ⟨0 + 1, V.heap.size, D :: Ds, ex_frame (by decide) HT.out⟩)
          · have hb : ((pre.length : Int) != m) = true := by simp; omega
            clear he
            gi_wp2
            refine Handed.intro 1 (by decide) (hJ _ _ _ ⟨0 + 1, V.heap.size, D :: Ds, ex_frame (by decide) HT.out⟩)
        · exact absurd hpre hno
    · obtain rfl : T = 2 := by omega
      have k6 : Held W b6 (.bool false) := ⟨(hB.cell (p := ⟨b6, 0, none⟩) t6).trans e6.1, (hB.frozen (p := ⟨b6, 0, none⟩) t6).trans e6.2⟩
      gi_wp2_with (refine ⟨trivial, ?_⟩; gi_at_call 14; refine (callsIn_wide.2 (known_any _)).mono ?_; rintro e w5 ⟨rfl, hb5⟩; have q6 : Held w5 b6 (.bool false) := ⟨(hb5.cell (p := ⟨b6, 0, none⟩) (by simp; omega)).trans k6.1, (hb5.frozen (p := ⟨b6, 0, none⟩) (by simp; omega)).trans k6.2⟩; have q6c := q6.1; have q6f := q6.2)
      have hM5 : Marks Wb.heap.size (w5.setCell ⟨b6, 0, none⟩ (.bool true)) Ds := Marks.others ⟨hM.1, fun D hD => ⟨(hM.2 D hD).1, (hb5.block D (hDs D hD)).trans (hM.2 D hD).2⟩⟩ (KeepsOthers.setCell _ _ _)
      have hB5 : Below w.heap.size w (w5.setCell ⟨b6, 0, none⟩ (.bool true)) := ((hBw.trans (hB.mono (by have := hBw.size; omega))).trans (hb5.mono (by have := hBw.size; omega))).setCell (p := ⟨b6, 0, none⟩) g6 _
      refine leaves_marks (B := Wb.heap.size) (b := b6) (v := .bool true) (w0 := w5.setCell ⟨b6, 0, none⟩ (.bool true)) (by have := hb5.size; simp [World.setCell]; omega) ?_ Ds _ hM5 (Below.refl _ _) (q6.set _)
      intro W' hB' hH'
      have hc' := hH'.1
      refine ⟨.bool true, ?_, rfl, hB5.trans (hB'.mono (by have := hBw.size; omega))⟩
      simp [results, Try.f7, go_sem, hc', Result.andThen]
end Go.Proofs
