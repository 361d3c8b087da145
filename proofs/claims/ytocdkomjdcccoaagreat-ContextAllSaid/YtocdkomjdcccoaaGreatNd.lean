import Derived.Test.YtocdkomjdcccoaaGreatNb3
import Derived.Lib.QuietBelowIn
import Derived.Laws.StructEq
section
namespace Go
open Go.Sort Go.RowKit
set_option linter.unusedVariables false
section
variable {F : Fence} {n : Nat} {P : Program} {ops : Array Oper} {Q : Exit → Act → World → Prop}
/-- A region that draws its order, whose callees lay blocks, in a round. -/
theorem wpIn_region_below_round {id : Nat} {a : Act} {w : World} {L : List Oper} (l : Nat) (hro : F.round = none) (hd : L.all noDefer = true) (hm : P.follows .mixedOrders = true) (hB : Region.lexB .any L.toArray = true)
    (h : wpQuietIn F n P L.toArray (fun w' => ∃ p : Regrown, w' = grow (redrawn w p.d) p.os) (fun a' => ∀ w', (∃ p : Regrown, w' = grow (redrawn w p.d) p.os) → Q .normal a' w') L a) : (Code.region id L.toArray true).wpIn (F.inRound l) n P Q a w := by
  simp only [Region.lexB, Bool.and_eq_true] at hB
  refine wpIn_region_any hm (wpAnyIn_round l hro (fun i o ho => ?_) _ _ _ _ (wpAnyIn_of_quiet (C := fun w' => ∃ p : Regrown, w' = grow (redrawn w p.d) p.os) (Q := fun a' => ∀ w', (∃ p : Regrown, w' = grow (redrawn w p.d) p.os) → Q .normal a' w') hro (fun _ w' hw' h => h w' hw') _ _ _ _ ⟨⟨w.drawn + 1, #[]⟩, by rw [grow_empty]; rfl⟩ ?_))
  · exact List.all_eq_true.1 hd o (List.mem_of_getElem? (by simpa using ho))
  · have := wpAnyQIn_lex (F := F) (n := n) (C := fun w' => ∃ p : Regrown, w' = grow (redrawn w p.d) p.os) (md := .any) hB.1 L 0 (Array.replicate L.toArray.size false) a (by simp) (by simpa using hB.2) h
    simpa using this
end
end Go
namespace Go.Proofs
open Go.RowKit Go.Shelf
set_option linter.unusedVariables false
set_option linter.unusedSimpArgs false
theorem strip_iff {a b : Nam} : a.strip = b.strip ↔ a.i = b.i ∧ a.q = b.q ∧ Alike a.x b.x := by
  unfold Nam.strip
  simp only [Nam.mk.injEq, Cx.mk.injEq]
  constructor
  · rintro ⟨h1, h2, h3, h4, _, _, _, h5, h6⟩; exact ⟨h1, h2, h3, h4, h5, h6⟩
  · rintro ⟨h1, h2, h3, h4, h5, h6⟩; exact ⟨h1, h2, h3, h4, trivial, trivial, trivial, h5, h6⟩
theorem Sim.now_yes {t : Tab Cx} {r : RTab} (h : Sim t r) {k : Nat} {p : Pl} (hp : r.L[k]? = some p) (hth : p.there = true) : ∃ a : Nam, nowL t (k + 1) = nowL t k ++ [a] ∧ a.i = (k : Nat) ∧ a.q = p.gen ∧ Alike a.x p.x := by
  obtain ⟨s, h1, h2, h3⟩ := h.live_pl hp hth
  exact ⟨_, nowL_yes h1, rfl, h2, h3⟩
theorem Sim.now_no {t : Tab Cx} {r : RTab} (h : Sim t r) {k : Nat} {p : Pl} (hp : r.L[k]? = some p) (hth : p.there = false) : nowL t (k + 1) = nowL t k := by
  refine nowL_no ?_
  cases hl : t.live (k : Nat) with
  | none => rfl
  | some s =>
    obtain ⟨p', k1, k2, _⟩ := h.pl_live hl
    rw [hp] at k1
    cases k1
    rw [hth] at k2
    cases k2
theorem now_other {t : Tab Cx} {k N : Nat} {a b : Nam} {pre : List Nam} (hk : k < N) (h1 : nowL t (k + 1) = nowL t k ++ [a]) (hp : pre.map Nam.strip = (nowL t k).map Nam.strip) (hne : a.strip ≠ b.strip) : ¬ ((pre ++ [b]).map Nam.strip <+: (nowL t N).map Nam.strip) := by
  intro h
  have h2 := (nowL_pre t (k + 1) N (by omega)).map Nam.strip
  rw [h1, List.map_append] at h2
  rw [List.map_append, hp] at h
  have := List.prefix_of_prefix_length_le h2 h (by simp)
  have := List.IsPrefix.eq_of_length this (by simp)
  simp at this
  exact hne this
theorem now_end {t : Tab Cx} {N : Nat} {pre : List Nam} (b : Nam) (hp : pre.map Nam.strip = (nowL t N).map Nam.strip) : ¬ ((pre ++ [b]).map Nam.strip <+: (nowL t N).map Nam.strip) := by
  intro h
  have := h.length_le
  rw [List.map_append, hp] at this
  simp at this
  omega
theorem now_all {t : Tab Cx} {q N : Nat} {a : Nam} {ys : List Nam} (hq : q < N) (h1 : nowL t (q + 1) = nowL t q ++ [a]) (h2 : ys.map Nam.strip = (nowL t N).map Nam.strip) (h3 : ys.map Nam.strip = (nowL t q).map Nam.strip) : False := by
  have h4 := ((nowL_pre t (q + 1) N (by omega)).map Nam.strip).length_le
  rw [h1, ← h2, h3] at h4
  simp at h4
  omega
/-- What holds between two acts, with the captured box of the document's contexts. -/
def Btw9 (w0 : World) (c h b9 : Nat) (most : Int) (N : Nat) (w : World) : Prop :=
  ∃ S SR t r, Pair w c S h SR t r most N ∧ (∀ k ∈ S, w0.heap.size ≤ k) ∧ (∀ k ∈ SR, w0.heap.size ≤ k) ∧ Chg [] w0 w ∧ Blk w b9 29 #[ptr h]
theorem Btw9.chg {w0 w : World} {c h b9 : Nat} {most : Int} {N : Nat} (H : Btw9 w0 c h b9 most N w) : Chg [] w0 w := by obtain ⟨S, SR, t, r, h1, h2, h3, h4, h5⟩ := H; exact h4
theorem Btw9.quiet {w0 w w' : World} {c h b9 : Nat} {most : Int} {N : Nat} (H : Btw9 w0 c h b9 most N w) (hc : Chg [] w w') : Btw9 w0 c h b9 most N w' := by
  obtain ⟨S, SR, t, r, h1, h2, h3, h4, h5⟩ := H
  exact ⟨S, SR, t, r, h1.quiet hc, h2, h3, h4.then hc, h5.chg hc (by simp)⟩
theorem Btw.nine {w0 w : World} {c h : Nat} {most : Int} {N : Nat} (H : Btw w0 c h most N w) : Btw9 w0 c h w.heap.size most N (w.alloc (.cells #[ptr h] 29)) := by
  obtain ⟨S, SR, t, r, h1, h2, h3, h4⟩ := H.quiet ((Chg.refl [] w).alloc (.cells #[ptr h] 29))
  exact ⟨S, SR, t, r, h1, h2, h3, h4, Blk.new w 29 _⟩
theorem Pair.not29 {w : World} {c h b9 : Nat} {S SR : List Nat} {t : Tab Cx} {r : RTab} {most N : Int} (P : Pair w c S h SR t r most N) {cs : Array Value} (hb : Blk w b9 29 cs) : b9 ∉ S ∧ b9 ∉ SR := by
  refine ⟨?_, P.rf.not_box hb (by decide) (by decide)⟩
  obtain ⟨g, _, hT, _, _⟩ := P.ct
  exact hT.not_box hb (by decide) (by decide) (by decide)
theorem Btw9.does {w0 w : World} {c h b9 : Nat} {most : Int} {N : Nat} (H : Btw9 w0 c h b9 most N w) (hN : N + 1 ≤ 1000) (a : ActC) (hF : a.Fits) :
    Calls Tryz.prog 12 #[ptr c, ptr h, .agg a.cells.toArray] w fun e w' => e = .returned (.bool true) ∧ Btw9 w0 c h b9 most (N + 1) w' := by
  obtain ⟨S, SR, t, r, h1, h2, h3, h4, h5⟩ := H
  refine (do_any h1 (by omega) a hF).mono ?_
  rintro e w' ⟨he, hp⟩
  have hch := hp.chg
  obtain ⟨S', SR', t', r', k1, k2, k3, k4, k5⟩ := hp.new h2 h3 h4
  exact ⟨he, S', SR', t', r', by have := k1; simpa using this, k2, k3, k4, h5.chg hch (fun hm => (List.mem_append.1 hm).elim (h1.not29 h5).1 (h1.not29 h5).2)⟩
/-- Make, whatever it answers. -/
theorem make_some {w : World} {c : Nat} {S : List Nat} {t : Tab Cx} {most : Int} (h : CtxAt w c S t most) (b p now : Int) :
    Calls Tryz.prog 17 #[ptr c, .int .u64 b, .int .u64 p, .int .u64 now] w fun e w' => ∃ v, e = .returned v ∧ ∃ t', CtxTurns c S t' most w w' := by
  by_cases he : makeE t b p now = 0
  · refine (make_yes h b p now he).mono ?_
    rintro e w' ⟨A, cc, rfl, hT⟩
    exact ⟨_, rfl, _, hT⟩
  · refine (make_no h b p now (by simpa using he)).mono ?_
    rintro e w' ⟨rfl, hc⟩
    exact ⟨_, rfl, t, CtxTurns.refl h hc⟩
theorem drop_some {w : World} {c : Nat} {S : List Nat} {t : Tab Cx} {most : Int} (h : CtxAt w c S t most) :
    Calls Tryz.prog 18 #[ptr c, .agg #[.int .i64 0, .int .u64 1]] w fun e w' => ∃ v, e = .returned v ∧ ∃ t', CtxTurns c S t' most w w' := by
  by_cases he : dropE t 0 1 = 0
  · refine (Drop_yes h (by decide) (by decide) he (by rw [topG_val]; decide)).mono ?_
    rintro e w' ⟨rfl, hT⟩
    exact ⟨_, rfl, _, hT⟩
  · refine (Drop_no h (by decide) (by decide) (by simpa using he)).mono ?_
    rintro e w' ⟨rfl, hc⟩
    exact ⟨_, rfl, t, CtxTurns.refl h hc⟩
/-- What lies ready where the turns begin. -/
structure Ready (w Wb : World) (b5 b6 b9 h BB : Nat) (lv : Int) (X : Nat → Prop) (t : Tab Cx) (r : RTab) (SR : List Nat) : Prop where
  e5 : Blk Wb b5 3 #[.int .i64 lv]
  e6 : Blk Wb b6 4 #[.bool false]
  e9 : Blk Wb b9 29 #[ptr h]
  ref : RefAt Wb h SR r
  over : Over X Wb BB (nowL t r.L.length)
  sim : Sim t r
  len : r.L.length ≤ 100
  lens : ∀ (k : Nat) (p : Pl), r.L[k]? = some p → p.there = true → p.x.l.length ≤ 100000
  base : w.heap.size ≤ b6
  chg : Chg [] w Wb
theorem Blk.keptN {W W' : World} {b : Nat} {ty : TypeId} {cs : Array Value} {C : Nat} {row : Option Nat} (h : Blk W b ty cs) (hC : b < C) (hg : W.grownBy W' row) (hr : ∀ r, row = some r → C ≤ r) : Blk W' b ty cs :=
  h.same (hg.block b h.lt (fun e => by have := hr b e.symm; omega))
theorem Marks.keptN {B C : Nat} {W W' : World} {Ds : List Nat} {row : Option Nat} (h : Marks B W Ds) (hC : ∀ D ∈ Ds, D < C) (hg : W.grownBy W' row) (hr : ∀ r, row = some r → C ≤ r) : Marks B W' Ds :=
  ⟨h.1, fun D hD => ⟨(h.2 D hD).1, (hg.block D (h.lt D hD) (fun e => by have := hr D e.symm; have := hC D hD; omega)).trans (h.2 D hD).2⟩⟩
theorem Marks.othersN {B : Nat} {W W' : World} {Ds : List Nat} (h : Marks B W Ds) (hk : KeepsOthers W W') : Marks B W' Ds := ⟨h.1, fun D hD => ⟨(h.2 D hD).1, hk.same D _ (h.2 D hD).2 rfl⟩⟩
/-- What holds between two turns. -/
def Turn (Wb : World) (T : Int) (bT : Nat) (Ds : List Nat) (W : World) : Prop := 0 ≤ T ∧ T ≤ 2 ∧ Wb.heap.size ≤ bT ∧ Blk W bT 3 #[.int .i64 T] ∧ Marks Wb.heap.size W Ds ∧ Below Wb.heap.size Wb W
/-- What holds in the midst of a round: the place, what has come, the turn. -/
structure GoesAt (t : Tab Cx) (Wb : World) (T : Int) (bT bA bN : Nat) (Ds : List Nat) (a : Nat) (pre : List Nam) (W : World) : Prop where
  pre_ : pre.map Nam.strip = (nowL t a).map Nam.strip
  at_ : Blk W bA 3 #[.int .i64 (a : Nat)]
  n : Blk W bN 3 #[.int .i64 (pre.length : Nat)]
  turn : Blk W bT 3 #[.int .i64 T]
  mks : Marks Wb.heap.size W Ds
  below : Below Wb.heap.size Wb W
def Goes (t : Tab Cx) (N : Nat) (Wb : World) (T : Int) (bT bA bN : Nat) (Ds : List Nat) (pre : List Nam) (W : World) : Prop := ∃ a, a ≤ N ∧ GoesAt t Wb T bT bA bN Ds a pre W
def Left (t : Tab Cx) (N : Nat) (lv : Int) (Wb : World) (T : Int) (bT bA bN : Nat) (Ds : List Nat) (c : Code) (pre : List Nam) (W : World) : Prop :=
  (c = .exit 4 ∧ T = 0 ∧ (pre.length : Int) = lv ∧ Goes t N Wb T bT bA bN Ds pre W) ∨ (c = .ret ∧ ¬ pre.map Nam.strip <+: (nowL t N).map Nam.strip)
theorem goes_own {t : Tab Cx} {N : Nat} {Wb : World} {T : Int} {bT bA bN C : Nat} {Ds : List Nat} (h14 : bT < C) (h15 : bA < C) (h16 : bN < C) (hC : ∀ D ∈ Ds, D < C) (hw : Wb.heap.size ≤ C) : OwnFrom C (Goes t N Wb T bT bA bN Ds) := by
  rintro pre A B row ⟨a, ha, h1, h2, h3, h4, h5, h6⟩ hg hr
  have hr' : ∀ r, row = some r → C ≤ r := fun r e => (hr r e).1
  exact ⟨a, ha, h1, h2.keptN h15 hg hr', h3.keptN h16 hg hr', h4.keptN h14 hg hr', h5.keptN hC hg hr', h6.grown hg h6.size (fun k e => Nat.le_trans hw (hr' k e))⟩
theorem left_own {t : Tab Cx} {N : Nat} {lv : Int} {Wb : World} {T : Int} {bT bA bN C : Nat} {Ds : List Nat} (h14 : bT < C) (h15 : bA < C) (h16 : bN < C) (hC : ∀ D ∈ Ds, D < C) (hw : Wb.heap.size ≤ C) (c : Code) : OwnFrom C (Left t N lv Wb T bT bA bN Ds c) := by
  rintro pre A B row h hg hr
  rcases h with ⟨h1, h2, h3, h4⟩ | h
  · exact .inl ⟨h1, h2, h3, goes_own h14 h15 h16 hC hw pre A B row h4 hg hr⟩
  · exact .inr h
/-- The place moves on. -/
theorem GoesAt.skip {t : Tab Cx} {Wb W : World} {T : Int} {bT bA bN a : Nat} {Ds : List Nat} {pre : List Nam} (H : GoesAt t Wb T bT bA bN Ds a pre W) (hn : nowL t (a + 1) = nowL t a) (h1 : bA ≠ bT) (h2 : bA ≠ bN) (hb : Wb.heap.size ≤ bA) :
    GoesAt t Wb T bT bA bN Ds (a + 1) pre (W.setCell ⟨bA, 0, none⟩ (.int .i64 ((a : Int) + 1))) := by
  obtain ⟨q1, q2, q3, q4, q5, q6⟩ := H
  exact ⟨by rw [hn]; exact q1, by have := q2.set_ 0 (.int .i64 ((a : Int) + 1)); simpa using this, q3.far (p := ⟨bA, 0, none⟩) (Ne.symm h2) _, q4.far (p := ⟨bA, 0, none⟩) (Ne.symm h1) _, q5.othersN (KeepsOthers.setCell _ _ _), q6.setCell (p := ⟨bA, 0, none⟩) hb _⟩
/-- One has come: the place moves on, and there is one more. -/
theorem GoesAt.come {t : Tab Cx} {Wb W : World} {T : Int} {bT bA bN a : Nat} {Ds : List Nat} {pre : List Nam} {x y : Nam} (H : GoesAt t Wb T bT bA bN Ds a pre W) (hn : nowL t (a + 1) = nowL t a ++ [y]) (hxy : x.strip = y.strip) (h1 : bA ≠ bT) (h2 : bA ≠ bN) (h3 : bN ≠ bT) (hb : Wb.heap.size ≤ bA) (hb2 : Wb.heap.size ≤ bN) :
    GoesAt t Wb T bT bA bN Ds (a + 1) (pre ++ [x]) ((W.setCell ⟨bA, 0, none⟩ (.int .i64 ((a : Int) + 1))).setCell ⟨bN, 0, none⟩ (.int .i64 ((pre.length : Int) + 1))) := by
  obtain ⟨q1, q2, q3, q4, q5, q6⟩ := H
  refine ⟨by rw [hn, List.map_append, List.map_append, q1]; simp [hxy], ?_, ?_, (q4.far (p := ⟨bA, 0, none⟩) (Ne.symm h1) _).far (p := ⟨bN, 0, none⟩) (Ne.symm h3) _, (q5.othersN (KeepsOthers.setCell _ _ _)).othersN (KeepsOthers.setCell _ _ _), (q6.setCell (p := ⟨bA, 0, none⟩) hb _).setCell (p := ⟨bN, 0, none⟩) hb2 _⟩
  · have := (q2.set_ 0 (.int .i64 ((a : Int) + 1))).far (p := ⟨bN, 0, none⟩) h2 (.int .i64 ((pre.length : Int) + 1))
    simpa using this
  · have := (q3.far (p := ⟨bA, 0, none⟩) (Ne.symm h2) (.int .i64 ((a : Int) + 1))).set_ 0 (.int .i64 ((pre.length : Int) + 1))
    simpa using this
end Go.Proofs
end
section
namespace Go.Proofs
open Go.RowKit Go.Shelf
set_option linter.unusedVariables false
set_option linter.unusedSimpArgs false
set_option maxRecDepth 100000
theorem ex_frame1 {x0 x1 x2 x3 x4 x5 x6 x7 x8 x9 x10 x11 x12 x13 x14 x15 x16 x17 x18 x19 x20 x21 x22 x23 x24 x25 x26 x27 x28 x29 x30 x31 x32 x33 x34 x35 x36 x37 x38 x39 x40 x41 x42 x43 x44 x45 x46 x47 x48 x49 x50 x51 x52 x53 x54 x55 x56 x57 x58 x59 x60 x61 x62 x63 x64 x65 x66 x67 x68 x69 x70 x71 x72 x73 x74 x75 x76 x77 x78 x79 x80 x81 x82 x83 x84 x85 x86 x87 x88 x89 x90 x91 x92 x93 x94 x95 x96 x97 x98 x99 x100 x101 x102 x103 x104 x105 x106 x107 x108 x109 x110 x111 x112 x113 x114 x115 x116 x117 x118 x119 x120 x121 x122 x123 x124 x125 x126 x127 x128 x129 x130 x131 x132 x133 x134 x135 x136 x137 x138 x139 x140 x141 x142 x143 x144 x145 x146 x147 x148 x149 x150 x151 x152 x153 x154 x155 x156 x157 x158 x159 x160 x161 x162 x163 x164 x165 x166 x167 x168 x169 x170 x171 x172 x173 x174 x175 x176 x177 x178 x179 x180 x181 x182 x183 x184 x185 x186 x187 x188 x189 : Value} {ds : List Deferred} {p q : Prop} (hp : p) (hq : q) :
    ∃ u : Nat → Value, p ∧ ({ tmps := #[x0, x1, x2, x3, x4, x5, x6, x7, x8, x9, x10, x11, x12, x13, x14, x15, x16, x17, x18, x19, x20, x21, x22, x23, x24, x25, x26, x27, x28, x29, x30, x31, x32, x33, x34, x35, x36, x37, x38, x39, x40, x41, x42, x43, x44, x45, x46, x47, x48, x49, x50, x51, x52, x53, x54, x55, x56, x57, x58, x59, x60, x61, x62, x63, x64, x65, x66, x67, x68, x69, x70, x71, x72, x73, x74, x75, x76, x77, x78, x79, x80, x81, x82, x83, x84, x85, x86, x87, x88, x89, x90, x91, x92, x93, x94, x95, x96, x97, x98, x99, x100, x101, x102, x103, x104, x105, x106, x107, x108, x109, x110, x111, x112, x113, x114, x115, x116, x117, x118, x119, x120, x121, x122, x123, x124, x125, x126, x127, x128, x129, x130, x131, x132, x133, x134, x135, x136, x137, x138, x139, x140, x141, x142, x143, x144, x145, x146, x147, x148, x149, x150, x151, x152, x153, x154, x155, x156, x157, x158, x159, x160, x161, x162, x163, x164, x165, x166, x167, x168, x169, x170, x171, x172, x173, x174, x175, x176, x177, x178, x179, x180, x181, x182, x183, x184, x185, x186, x187, x188, x189], defers := ds } : Act) = { tmps := #[x0, x1, x2, u 3, u 4, x5, x6, x7, u 8, x9, u 10, x11, x12, u 13, u 14, u 15, u 16, u 17, u 18, u 19, u 20, u 21, u 22, u 23, u 24, u 25, u 26, u 27, u 28, u 29, u 30, u 31, u 32, u 33, u 34, u 35, u 36, u 37, u 38, u 39, u 40, u 41, u 42, u 43, u 44, u 45, u 46, u 47, u 48, u 49, u 50, u 51, u 52, u 53, u 54, u 55, u 56, u 57, u 58, u 59, u 60, u 61, u 62, u 63, u 64, u 65, u 66, u 67, u 68, u 69, u 70, u 71, u 72, u 73, u 74, u 75, u 76, u 77, u 78, u 79, u 80, u 81, u 82, u 83, u 84, u 85, u 86, u 87, u 88, u 89, u 90, u 91, u 92, u 93, u 94, u 95, u 96, u 97, u 98, u 99, u 100, u 101, u 102, u 103, u 104, u 105, u 106, u 107, u 108, u 109, u 110, u 111, u 112, u 113, u 114, u 115, u 116, u 117, u 118, u 119, u 120, u 121, u 122, u 123, u 124, u 125, u 126, u 127, u 128, u 129, u 130, u 131, u 132, u 133, u 134, u 135, u 136, u 137, u 138, u 139, u 140, u 141, u 142, u 143, u 144, u 145, u 146, u 147, u 148, u 149, u 150, u 151, u 152, u 153, u 154, u 155, u 156, u 157, u 158, u 159, u 160, u 161, u 162, u 163, u 164, u 165, u 166, u 167, u 168, u 169, u 170, u 171, u 172, u 173, u 174, u 175, u 176, u 177, u 178, u 179, u 180, u 181, u 182, u 183, u 184, u 185, u 186, u 187, u 188, u 189], defers := ds } ∧ q :=
  ⟨fun i => #[x0, x1, x2, x3, x4, x5, x6, x7, x8, x9, x10, x11, x12, x13, x14, x15, x16, x17, x18, x19, x20, x21, x22, x23, x24, x25, x26, x27, x28, x29, x30, x31, x32, x33, x34, x35, x36, x37, x38, x39, x40, x41, x42, x43, x44, x45, x46, x47, x48, x49, x50, x51, x52, x53, x54, x55, x56, x57, x58, x59, x60, x61, x62, x63, x64, x65, x66, x67, x68, x69, x70, x71, x72, x73, x74, x75, x76, x77, x78, x79, x80, x81, x82, x83, x84, x85, x86, x87, x88, x89, x90, x91, x92, x93, x94, x95, x96, x97, x98, x99, x100, x101, x102, x103, x104, x105, x106, x107, x108, x109, x110, x111, x112, x113, x114, x115, x116, x117, x118, x119, x120, x121, x122, x123, x124, x125, x126, x127, x128, x129, x130, x131, x132, x133, x134, x135, x136, x137, x138, x139, x140, x141, x142, x143, x144, x145, x146, x147, x148, x149, x150, x151, x152, x153, x154, x155, x156, x157, x158, x159, x160, x161, x162, x163, x164, x165, x166, x167, x168, x169, x170, x171, x172, x173, x174, x175, x176, x177, x178, x179, x180, x181, x182, x183, x184, x185, x186, x187, x188, x189].getD i undef, hp, rfl, hq⟩
theorem ex_frame3 {x0 x1 x2 x3 x4 x5 x6 x7 x8 x9 x10 x11 x12 x13 x14 x15 x16 x17 x18 x19 x20 x21 x22 x23 x24 x25 x26 x27 x28 x29 x30 x31 x32 x33 x34 x35 x36 x37 x38 x39 x40 x41 x42 x43 x44 x45 x46 x47 x48 x49 x50 x51 x52 x53 x54 x55 x56 x57 x58 x59 x60 x61 x62 x63 x64 x65 x66 x67 x68 x69 x70 x71 x72 x73 x74 x75 x76 x77 x78 x79 x80 x81 x82 x83 x84 x85 x86 x87 x88 x89 x90 x91 x92 x93 x94 x95 x96 x97 x98 x99 x100 x101 x102 x103 x104 x105 x106 x107 x108 x109 x110 x111 x112 x113 x114 x115 x116 x117 x118 x119 x120 x121 x122 x123 x124 x125 x126 x127 x128 x129 x130 x131 x132 x133 x134 x135 x136 x137 x138 x139 x140 x141 x142 x143 x144 x145 x146 x147 x148 x149 x150 x151 x152 x153 x154 x155 x156 x157 x158 x159 x160 x161 x162 x163 x164 x165 x166 x167 x168 x169 x170 x171 x172 x173 x174 x175 x176 x177 x178 x179 x180 x181 x182 x183 x184 x185 x186 x187 x188 x189 : Value} {ds : List Deferred} {p q : Prop} (hp : p) (hq : q) :
    ∃ u : Nat → Value, p ∧ ({ tmps := #[x0, x1, x2, x3, x4, x5, x6, x7, x8, x9, x10, x11, x12, x13, x14, x15, x16, x17, x18, x19, x20, x21, x22, x23, x24, x25, x26, x27, x28, x29, x30, x31, x32, x33, x34, x35, x36, x37, x38, x39, x40, x41, x42, x43, x44, x45, x46, x47, x48, x49, x50, x51, x52, x53, x54, x55, x56, x57, x58, x59, x60, x61, x62, x63, x64, x65, x66, x67, x68, x69, x70, x71, x72, x73, x74, x75, x76, x77, x78, x79, x80, x81, x82, x83, x84, x85, x86, x87, x88, x89, x90, x91, x92, x93, x94, x95, x96, x97, x98, x99, x100, x101, x102, x103, x104, x105, x106, x107, x108, x109, x110, x111, x112, x113, x114, x115, x116, x117, x118, x119, x120, x121, x122, x123, x124, x125, x126, x127, x128, x129, x130, x131, x132, x133, x134, x135, x136, x137, x138, x139, x140, x141, x142, x143, x144, x145, x146, x147, x148, x149, x150, x151, x152, x153, x154, x155, x156, x157, x158, x159, x160, x161, x162, x163, x164, x165, x166, x167, x168, x169, x170, x171, x172, x173, x174, x175, x176, x177, x178, x179, x180, x181, x182, x183, x184, x185, x186, x187, x188, x189], defers := ds } : Act) = { tmps := #[x0, x1, x2, u 3, u 4, x5, x6, x7, u 8, x9, u 10, x11, x12, x13, x14, x15, x16, u 17, u 18, u 19, u 20, u 21, u 22, u 23, u 24, u 25, u 26, u 27, u 28, u 29, u 30, u 31, u 32, u 33, u 34, u 35, u 36, u 37, u 38, u 39, u 40, u 41, u 42, u 43, u 44, u 45, u 46, u 47, u 48, u 49, u 50, u 51, u 52, u 53, u 54, u 55, u 56, u 57, u 58, u 59, u 60, u 61, u 62, u 63, u 64, u 65, u 66, u 67, u 68, u 69, u 70, u 71, u 72, u 73, u 74, u 75, u 76, u 77, u 78, u 79, u 80, u 81, u 82, u 83, u 84, u 85, u 86, u 87, u 88, u 89, u 90, u 91, u 92, u 93, u 94, u 95, u 96, u 97, u 98, u 99, u 100, u 101, u 102, u 103, u 104, u 105, u 106, u 107, u 108, u 109, u 110, u 111, u 112, u 113, u 114, u 115, u 116, u 117, u 118, u 119, u 120, u 121, u 122, u 123, u 124, u 125, u 126, u 127, u 128, u 129, u 130, u 131, u 132, u 133, u 134, u 135, u 136, u 137, u 138, u 139, u 140, u 141, u 142, u 143, u 144, u 145, u 146, u 147, u 148, u 149, u 150, u 151, u 152, u 153, u 154, u 155, u 156, u 157, u 158, u 159, u 160, u 161, u 162, u 163, u 164, u 165, u 166, u 167, u 168, u 169, u 170, u 171, u 172, u 173, u 174, u 175, u 176, u 177, u 178, u 179, u 180, u 181, u 182, u 183, u 184, u 185, u 186, u 187, u 188, u 189], defers := ds } ∧ q :=
  ⟨fun i => #[x0, x1, x2, x3, x4, x5, x6, x7, x8, x9, x10, x11, x12, x13, x14, x15, x16, x17, x18, x19, x20, x21, x22, x23, x24, x25, x26, x27, x28, x29, x30, x31, x32, x33, x34, x35, x36, x37, x38, x39, x40, x41, x42, x43, x44, x45, x46, x47, x48, x49, x50, x51, x52, x53, x54, x55, x56, x57, x58, x59, x60, x61, x62, x63, x64, x65, x66, x67, x68, x69, x70, x71, x72, x73, x74, x75, x76, x77, x78, x79, x80, x81, x82, x83, x84, x85, x86, x87, x88, x89, x90, x91, x92, x93, x94, x95, x96, x97, x98, x99, x100, x101, x102, x103, x104, x105, x106, x107, x108, x109, x110, x111, x112, x113, x114, x115, x116, x117, x118, x119, x120, x121, x122, x123, x124, x125, x126, x127, x128, x129, x130, x131, x132, x133, x134, x135, x136, x137, x138, x139, x140, x141, x142, x143, x144, x145, x146, x147, x148, x149, x150, x151, x152, x153, x154, x155, x156, x157, x158, x159, x160, x161, x162, x163, x164, x165, x166, x167, x168, x169, x170, x171, x172, x173, x174, x175, x176, x177, x178, x179, x180, x181, x182, x183, x184, x185, x186, x187, x188, x189].getD i undef, hp, rfl, hq⟩

theorem GoesAt.drewN {t : Tab Cx} {Wb W : World} {T : Int} {bT bA bN a : Nat} {Ds : List Nat} {pre : List Nam} (H : GoesAt t Wb T bT bA bN Ds a pre W) (n : Nat) : GoesAt t Wb T bT bA bN Ds a pre (W.drewN n) :=
  ⟨H.pre_, H.at_, H.n, H.turn, H.mks, ⟨H.below.os, H.below.tape, H.below.output, H.below.size, H.below.block⟩⟩
theorem GoesAt.chg {t : Tab Cx} {Wb W W' : World} {T : Int} {bT bA bN a : Nat} {Ds S : List Nat} {pre : List Nam} (H : GoesAt t Wb T bT bA bN Ds a pre W) (hc : Chg S W W') (hk : KeepsOthers W W') (hA : bA ∉ S) (hN : bN ∉ S) (hT : bT ∉ S) (hD : ∀ k ∈ S, Wb.heap.size ≤ k) : GoesAt t Wb T bT bA bN Ds a pre W' :=
  ⟨H.pre_, H.at_.chg hc hA, H.n.chg hc hN, H.turn.chg hc hT, H.mks.othersN hk, H.below.trans (hc.below hD H.below.size)⟩
theorem neq_ref (a b c d : Int) (W : World) : (binOp .neq 34 (.agg #[.int .i64 a, .int .u64 b]) (.agg #[.int .i64 c, .int .u64 d])).run Tryz.prog W = .ok (.bool (!(a == c && b == d))) W := by
  have h1 : Tryz.prog.underlying 34 = some (.struct (Tryz.prog.fieldsOf 34)) := by kernel_rfl
  have h2 : Tryz.prog.stoodInHeld 34 = false := by kernel_rfl
  rw [run_neq_struct, run_equalIn_agg (ht := h1) (hp := h2)]
  simp [go_sem, Tryz.underlying34, Op.eqFields, Tryz.underlying3, Tryz.underlying32]
  by_cases e1 : a = c <;> by_cases e2 : b = d <;> simp [e1, e2]
theorem ref_yes {a b c d : Int} (h : a = c ∧ b = d) (W : World) : (binOp .neq 34 (.agg #[.int .i64 a, .int .u64 b]) (.agg #[.int .i64 c, .int .u64 d])).run Tryz.prog W = .ok (.bool false) W := by
  rw [neq_ref]; simp [h.1, h.2]
theorem ref_no {a b c d : Int} (h : ¬ (a = c ∧ b = d)) (W : World) : (binOp .neq 34 (.agg #[.int .i64 a, .int .u64 b]) (.agg #[.int .i64 c, .int .u64 d])).run Tryz.prog W = .ok (.bool true) W := by
  rw [neq_ref]
  have : (a == c && b == d) = false := by
    rw [Bool.and_eq_false_iff]
    by_cases e : a = c
    · right; simpa using fun e2 => h ⟨e, e2⟩
    · left; simpa using e
  rw [this]; rfl
/-- The turn's box is laid anew, and one more is stored into it. -/
theorem Turn.next {t : Tab Cx} {Wb V : World} {T : Int} {bT bA bN a C D : Nat} {Ds : List Nat} {pre : List Nam} (T0 : 0 ≤ T) (T1 : T < 2) (H : GoesAt t Wb T bT bA bN Ds a pre V) (hC : ∀ D ∈ Ds, D < C) (hBC : Wb.heap.size ≤ C) (hD : C ≤ D) (hK : V.heap[D]? = some (.deferred (some []))) :
    Turn Wb (T + 1) V.heap.size (D :: Ds) (V.alloc (.cells #[.int .i64 (T + 1)] 3)) :=
  ⟨by omega, by omega, H.below.size, Blk.new V 3 _, (H.mks.cons hC hBC hD hK).othersN (KeepsOthers.alloc _ _), H.below.alloc H.below.size _⟩
theorem drew_cell {W : World} (n : Nat) (v : Value) (t : TypeId) : ((W.drewN n).alloc (.cells #[v] t)).cell? { block := W.heap.size, off := 0 } = some v :=
  (Blk.new (W.drewN n) t #[v]).cell 0
theorem drew_frozen {W : World} (n : Nat) (v : Value) (t : TypeId) : ((W.drewN n).alloc (.cells #[v] t)).frozen? { block := W.heap.size, off := 0 } = false :=
  (Blk.new (W.drewN n) t #[v]).frozen 0
theorem drew_set {W : World} (n : Nat) (v x : Value) (t : TypeId) : ((W.drewN n).alloc (.cells #[v] t)).setCell { block := W.heap.size, off := 0 } x = (W.drewN n).alloc (.cells #[x] t) := by
  have h : ((W.drewN n).alloc (.cells #[v] t)).setCell { block := (W.drewN n).heap.size, off := 0 } x = (W.drewN n).alloc (.cells #[x] t) := by
    rw [World.setCell_alloc_at _ _ _ _ _ rfl]; rfl
  exact h
theorem Ready.cells {w Wb : World} {b5 b6 b9 h BB : Nat} {lv : Int} {X : Nat → Prop} {t : Tab Cx} {r : RTab} {SR : List Nat} (H : Ready w Wb b5 b6 b9 h BB lv X t r SR) : ∃ A cl, ∀ W, Below Wb.heap.size Wb W →
    W.cell? ⟨b9, 0, none⟩ = some (ptr h) ∧ W.cell? ⟨h, 0, none⟩ = some (.slice A r.L.length cl) ∧ W.cell? ⟨b5, 0, none⟩ = some (.int .i64 lv) ∧ W.cell? ⟨b6, 0, none⟩ = some (.bool false) ∧ W.frozen? ⟨b6, 0, none⟩ = false ∧
    ∀ k p, r.L[k]? = some p → ∃ gl, A = some ⟨gl, 0, none⟩ ∧ W.cell? ⟨gl, k * 7, none⟩ = some (.int .u64 p.gen) ∧ W.cell? ⟨gl, k * 7 + 1, none⟩ = some (.bool p.there) ∧ W.cell? ⟨gl, k * 7 + 2, none⟩ = some (.int .u64 p.x.b) ∧ W.cell? ⟨gl, k * 7 + 3, none⟩ = some (.int .u64 p.x.p) ∧
      W.cell? ⟨gl, k * 7 + 4, none⟩ = some (.slice p.x.a p.x.m p.x.c) ∧ W.cell? ⟨gl, k * 7 + 5, none⟩ = some (.int .i64 p.x.n) ∧ Rd W p.x.v p.x.l := by
  obtain ⟨VL, hB, hL, hS, hG⟩ := H.ref
  obtain ⟨A, cl, rfl, _⟩ := hL.val
  refine ⟨A, cl, fun W hW => ⟨(hW.cell (p := ⟨b9, 0, none⟩) H.e9.lt).trans (H.e9.cell 0), (hW.cell (p := ⟨h, 0, none⟩) hB.lt).trans (hB.cell 0), (hW.cell (p := ⟨b5, 0, none⟩) H.e5.lt).trans (H.e5.cell 0), (hW.cell (p := ⟨b6, 0, none⟩) H.e6.lt).trans (H.e6.cell 0), (hW.frozen (p := ⟨b6, 0, none⟩) H.e6.lt).trans (H.e6.frozen 0), fun k p hp => ?_⟩⟩
  obtain ⟨gl, cl', hB', hL', _, lg, _, _, c0, c1, c2, c3, c4, c5, _, _⟩ := H.ref.form hp
  have he : A = some ⟨gl, 0, none⟩ := by
    have := (hB.cell 0).symm.trans (hB'.cell 0)
    simp at this
    exact this.1
  have hrd := hG k p hp
  exact ⟨gl, he, (hW.cell (p := ⟨gl, _, none⟩) lg).trans c0, (hW.cell (p := ⟨gl, _, none⟩) lg).trans c1, (hW.cell (p := ⟨gl, _, none⟩) lg).trans c2, (hW.cell (p := ⟨gl, _, none⟩) lg).trans c3, (hW.cell (p := ⟨gl, _, none⟩) lg).trans c4, (hW.cell (p := ⟨gl, _, none⟩) lg).trans c5, Rs.same hrd (fun k hk => hW.block k (hrd.lt k hk))⟩
/-- Behind the acts: All, then one made and one dropped: what was gathered stays. -/
theorem Ready.after {w W1 W2 W4 : World} {c h b5 b6 b9 BB : Nat} {most lv : Int} {N : Nat} {S SR : List Nat} {t : Tab Cx} {r : RTab} (P : Pair W1 c S h SR t r most N) (hc1 : Chg [] w W1) (h9 : Blk W1 b9 29 #[ptr h]) (h5 : Blk W1 b5 3 #[.int .i64 lv]) (h6 : Blk W1 b6 4 #[.bool false]) (hb : w.heap.size ≤ b6) (hS : ∀ k ∈ S, w.heap.size ≤ k)
    (n5 : b5 ∉ S) (n6 : b6 ∉ S) (hA : Below W1.heap.size W1 W2)
    (hO : ∀ X : Nat → Prop, (∀ k, W1.heap.size ≤ k → k < W2.heap.size → X k) → (∀ (k : Nat) (s : Spot Cx), t.spots[k]? = some s → s.there = true → ∀ j ∈ foot s.thing.v, X j) → (∀ k, X k → k < W2.heap.size) → Over X W2 BB (nowL t r.L.length))
    (hc : Chg S W2 W4) : Ready w W4 b5 b6 b9 h BB lv (fun k => k < W2.heap.size ∧ k ∉ S) t r SR := by
  have zA := hA.size
  have lS : ∀ k ∈ S, k < W1.heap.size := fun k hk => P.ct.lt k (by simp [hk])
  have hcA : Chg [] W1 W2 := Chg.of_below hA
  have hap := apart_tabs P.ct P.rf
  have hoff : Off W2 S := (P.ct.quiet hcA).off
  obtain ⟨g, hB, hT, hG, hW⟩ := id P.ct
  refine ⟨(h5.chg hcA (by simp)).chg hc n5, (h6.chg hcA (by simp)).chg hc n6, (h9.chg hcA (by simp)).chg hc (P.not29 h9).1, (P.rf.quiet hcA).chg hc (fun k hk hk' => hap.2 k hk' hk) hoff, ?_, P.sim, P.len.2, P.lens_pl, hb, (hc1.then hcA).trans hc (fun k hk => .inr (hS k hk))⟩
  have hov := hO (fun k => k < W2.heap.size ∧ k ∉ S) (fun k h1 h2 => ⟨h2, fun hm => by have := lS k hm; omega⟩) (fun k s hs ht j hj => ?_) (fun k hk => hk.1)
  · exact hov.keep (KeepP.chg hc (fun k hk => hk.1) (fun k hk hX => hX.2 hk))
  · have hrd : Rd W1 s.thing.v s.thing.l := hG k s hs
    have hlt := hrd.lt j hj
    refine ⟨by omega, fun hm => ?_⟩
    obtain ⟨ty, cs, hb1, hne⟩ := P.ct.off j hm hlt
    exact Rs.ty hrd hb1 (fun e => hne e.symm) hj
end Go.Proofs
end
section
namespace Go.Proofs
open Go.RowKit Go.Shelf
set_option linter.unusedVariables false
set_option linter.unusedSimpArgs false
attribute [local go_sem] Oper.semAt_some
theorem run_eql_nilFunc5 (c : Array Value) (f : FuncId) (w : World) : (binOp BinOp.eql 39 (Value.func (Fn.func f) #[] c) Value.nilFunc).run Tryz.prog w = .ok (.bool false) w := by
  kernel_rfl
attribute [local go_sem] run_eql_nilFunc5
/-- A piece that comes to no other end than its own: what is asked at other ends does not matter. -/
theorem wpIn_calm {F : Fence} {rm : Nat} {P : Program} {c : Code} {Q : Exit → Act → World → Prop} {a : Act} {w : World} (h : c.wpIn F rm P (fun e a w => match e with | .normal => Q .normal a w | _ => False) a w) : c.wpIn F rm P Q a w :=
  wpIn_mono h (fun e a' w' hq => by cases e <;> first | exact hq | exact hq.elim)
theorem boxes5 (w : World) (lv : Int) : Blk ((w.alloc (.cells #[.int .i64 lv] 3)).alloc (.cells #[.bool false] 4)) w.heap.size 3 #[.int .i64 lv] ∧ Blk ((w.alloc (.cells #[.int .i64 lv] 3)).alloc (.cells #[.bool false] 4)) (w.heap.size + 1) 4 #[.bool false] ∧
    Chg [] w ((w.alloc (.cells #[.int .i64 lv] 3)).alloc (.cells #[.bool false] 4)) :=
  ⟨(Blk.new w 3 _).alloc _, Blk.at (w.alloc _) 4 _ (by simp), ((Chg.refl _ _).alloc _).alloc _⟩
set_option maxRecDepth 100000 in
set_option maxHeartbeats 25600000 in
theorem all_any (size lv : Int) (V : Value) (l : List ActC) (w : World) (hV : Acts w V l) :
    CallsIn Fence.wide 12 Tryz.prog 5 #[.int .i64 size, V, .int .i64 lv] w fun e w' => e = .returned (.bool true) ∧ Chg [] w w' := by
  obtain ⟨A, c9, rfl⟩ := hV.open_
  obtain ⟨m, hm⟩ : ∃ m, m = l.length := ⟨_, rfl⟩
  rw [← hm] at hV ⊢
  have HV := Lib.hid hV
  clear hV hm
  have HBx := Lib.hid (boxes5 w lv)
  have hb0 : w.heap.size + 2 = ((w.alloc (.cells #[.int .i64 lv] 3)).alloc (.cells #[.bool false] 4)).heap.size := by simp
  have HZ0 := Lib.hid hb0
  clear hb0
  refine callsIn_of_wp_marks Tryz.func5 rfl trivial ?_ rfl
  simp only [Tryz.ntmps5, List.size_toArray, List.length_cons, List.length_nil, Nat.reduceAdd, Nat.reduceSub, Array.replicate_succ, Array.replicate_zero, List.push_toArray, List.append_toArray, List.nil_append, List.cons_append]
  have HEND : Hid (∀ W1 tmps, Chg [] ((w.alloc (.cells #[.int .i64 lv] 3)).alloc (.cells #[.bool false] 4)) W1 → tmps[6]? = some (Value.pointer (some ⟨w.heap.size + 1, 0, none⟩)) → LeavesIn Fence.wide 12 Tryz.prog Tryz.f5 tmps (fun e w' => e = .returned (.bool true) ∧ Chg [] w w') [] .returning (W1.setCell ⟨w.heap.size + 1, 0, none⟩ (.bool true))) := Lib.hid (fun W1 tmps hc ht => by
    have h := (HBx.out.2.1.chg hc (by simp)).set_ 0 (.bool true)
    have h0 := h.cell 0
    simp at h0
    refine ⟨.bool true, ?_, rfl, (HBx.out.2.2.then hc).setCell (p := ⟨w.heap.size + 1, 0, none⟩) (.inr (by simp)) _⟩
    simp [results, Tryz.f5, go_sem, h0, Result.andThen, ht])
  by_cases hbig : 120 < (m : Int)
  · have d1 : decide ((m : Int) > 120) = true := by simpa using hbig
    gi_wp2
    refine ⟨trivial, ?_⟩
    gi_wp2_with (refine ⟨trivial, ?_⟩; gi_at_call 8; refine (callsIn_wide.2 (known_any _)).mono ?_; rintro e w1 ⟨rfl, hc⟩; have q6 := HBx.out.2.1.chg hc (by simp); have q0 := q6.cell 0; have qf := q6.frozen 0)
    exact HEND.out _ _ hc (by simp)
  have d1 : decide ((m : Int) > 120) = false := by simpa using hbig
  cases hmay : mayC size 4 with
  | false =>
    have HM := Lib.hid hmay
    clear hmay
    gi_wp2_with (first
      | (refine ⟨trivial, ?_⟩; gi_at_call 10; refine (callsIn_wide.2 (May_any _ _ _)).mono ?_; rintro e w1 ⟨rfl, rfl⟩; rw [HM.out])
      | (refine ⟨trivial, ?_⟩; gi_at_call 8; refine (callsIn_wide.2 (known_any _)).mono ?_; rintro e w1 ⟨rfl, hc⟩; have q6 := HBx.out.2.1.chg hc (by simp); have q0 := q6.cell 0; have qf := q6.frozen 0))
    exact HEND.out _ _ hc (by simp)
  | true =>
    have HM := Lib.hid hmay
    clear hmay HEND
    gi_wp2_with (first
      | (refine ⟨trivial, ?_⟩; gi_at_call 10; refine (callsIn_wide.2 (May_any _ _ _)).mono ?_; rintro e w1 ⟨rfl, rfl⟩; rw [HM.out])
      | (refine ⟨trivial, ?_⟩; gi_at_call 9; refine (callsIn_wide.2 (New_yes _ HM.out)).mono ?_; rintro e w1 ⟨c, g, rfl, hT, lc, lg, hc⟩; have HT := Lib.hid (Btw.new HM.out hT lg hc); clear hT hc)
      | (refine ⟨trivial, ?_⟩; gi_at_call 11; refine (callsIn_wide.2 HT.out).mono ?_; rintro e w3 ⟨h, rfl, hB, _⟩; have HB := Lib.hid hB.nine; clear hB))
    obtain ⟨b9, hb9⟩ : ∃ b9, b9 = w3.heap.size := ⟨_, rfl⟩
    rw [← hb9] at HB ⊢
    obtain ⟨W0, hW0⟩ : ∃ W0, W0 = w3.alloc (.cells #[ptr h] 29) := ⟨_, rfl⟩
    rw [← hW0] at HB ⊢
    obtain ⟨Wa, hWa⟩ : ∃ Wa, Wa = (w.alloc (.cells #[.int .i64 lv] 3)).alloc (.cells #[.bool false] 4) := ⟨_, rfl⟩
    rw [← hWa] at HB HBx HZ0
    clear hb9 hW0 hWa HT lc lg
    gi_loopw [10] (fun i wr => ∃ k : Nat, k ≤ m ∧ i = .int .i64 k ∧ Hid (Btw9 Wa c h b9 4 k wr)) (fun i wr => m - (intOfN i).toNat)
    case atStart => exact ⟨0, Nat.zero_le _, rfl, HB⟩
    case round =>
      clear HB
      obtain ⟨k, hk, rfl, hB⟩ := hrel
      by_cases hlt : k < m
      · obtain ⟨b, off, kind, ri, rq, ti, tq, a2, b2, T, rfl, hat, hfit, hcs⟩ := HV.out.is_ hlt
        obtain ⟨e0, e1, e2, e3, e4, e5, e6, e7⟩ := hcs _ (HBx.out.2.2.then hB.out.chg)
        have d9 : wr.cell? ⟨b9, 0, none⟩ = some (ptr h) := by obtain ⟨_, _, _, _, _, _, _, _, h9⟩ := hB.out; exact h9.cell 0
        have i0 : (0 : Int) ≤ (k : Int) := by omega
        have i1 : (k : Int) < (m : Int) := by omega
        have HD := Lib.hid (fun W (hc : Chg [] wr W) => (hB.out.quiet hc).does (by omega) _ hfit)
        simp only [ActC.cells] at HD
        clear hfit hat hcs hB
        gi_wp2
        refine wpIn_calm ?_
        gi_region_with (refine ⟨trivial, ?_⟩; refine (callsIn_wide.2 (HD.out _ ((Chg.refl _ _).drew))).mono ?_; rintro e w4 ⟨rfl, hB2⟩; have HB2 := Lib.hid hB2; clear hB2)
        all_goals
          dsimp only
          gi_wp2
          go_roundw
          case rel => exact ⟨k + 1, by omega, by go_num, HB2⟩
          case measure => simp [intOfN]; omega
      · obtain rfl : k = m := by omega
        obtain ⟨S, SR, t, r, hP, hS, hSR, hcP, h9⟩ := hB.out
        obtain ⟨N, hN⟩ : ∃ N : Nat, t.size = (N : Nat) := ⟨r.L.length, by rw [hP.sim.len]⟩
        have hNr : N = r.L.length := by have := hP.sim.len; omega
        have HA := Lib.hid (All_any hP.ct hN hP.lens)
        rw [hNr] at HA
        have zW := HZ0.out
        have l5 := HBx.out.1.lt
        have l6 := HBx.out.2.1.lt
        have hcw := HBx.out.2.2
        have zwa := hcw.size
        have HAF := Lib.hid (fun (W2 W4 : World) (BB : Nat) => Ready.after (w := w) (b5 := w.heap.size) (b6 := w.heap.size + 1) (W2 := W2) (W4 := W4) (BB := BB) hP (hcw.then hcP) h9 (HBx.out.1.chg hcP (by simp)) (HBx.out.2.1.chg hcP (by simp)) (by omega) (fun k hk => by have := hS k hk; omega) (fun hm => by have := hS _ hm; omega) (fun hm => by have := hS _ hm; omega))
        have HCT := Lib.hid hP.ct
        have HSS := Lib.hid hS
        clear hP h9 hB hS hSR hcw zwa l5 l6 hN hNr zW
        gi_wp2_with (fail)
        refine ⟨trivial, (callsIn_wide.2 HA.out).mono ?_⟩
        rintro e w5 ⟨BB, rfl, hb5, hO5⟩
        have hct5 := HCT.out.quiet (Chg.of_below hb5)
        gi_wp2_with (fail)
        refine ⟨trivial, (callsIn_wide.2 (make_some hct5 1 1 0)).mono ?_⟩
        rintro e w6 ⟨v6, rfl, t6, S6, hct6, hs6, hc6⟩
        gi_wp2_with (fail)
        refine ⟨trivial, (callsIn_wide.2 (drop_some hct6)).mono ?_⟩
        rintro e w7 ⟨v7, rfl, t7, S7, hct7, hs7, hc7⟩
        have hc57 : Chg S w5 w7 := hc6.trans hc7 hs6
        have HRd := Lib.hid (HAF.out w5 w7 BB hb5 hO5 hc57)
        have HXW : Hid (∀ k, (k < w5.heap.size ∧ k ∉ S) → k < w7.heap.size) := Lib.hid (fun k hk => Nat.lt_of_lt_of_le hk.1 hc57.size)
        obtain ⟨X, hX⟩ : ∃ X : Nat → Prop, X = (fun k => k < w5.heap.size ∧ k ∉ S) := ⟨_, rfl⟩
        have HXW : Hid (∀ k, X k → k < w7.heap.size) := Lib.hid (by rw [hX]; exact HXW.out)
        rw [← hX] at HRd
        clear hct5 hct6 hct7 hs6 hs7 hc6 hc7 hc57 hb5 hO5 HAF HCT HA HSS hX
        gi_wp2_with (fail)
        have HT0 := Lib.hid (show Turn w7 0 w7.heap.size [] (w7.alloc (.cells #[.int .i64 0] 3)) from ⟨by omega, by omega, Nat.le_refl _, Blk.new w7 3 _, ⟨List.nodup_nil, fun D h => by cases h⟩, (Below.refl _ _).alloc (Nat.le_refl _) _⟩)
        generalize w7.heap.size = bT at HT0 ⊢
        generalize w7.alloc (.cells #[.int .i64 0] 3) = Ws at HT0 ⊢
        refine wpIn_loop_ghost_k (fun j a' W => ∃ (T : Int) (bT : Nat) (Ds : List Nat) (u : Nat → Value), j = (2 - T).toNat ∧ a' = { tmps := #[.int .i64 size, .slice A k c9, .int .i64 lv, u 3, u 4, .pointer (some ⟨w.heap.size, 0, none⟩), .pointer (some ⟨w.heap.size + 1, 0, none⟩), .pointer (some ⟨c, 0, none⟩), u 8, .pointer (some ⟨b9, 0, none⟩), u 10, .func (.func 45) #[] #[.pointer (some ⟨BB, 0, none⟩)], .pointer (some ⟨bT, 0, none⟩), u 13, u 14, u 15, u 16, u 17, u 18, u 19, u 20, u 21, u 22, u 23, u 24, u 25, u 26, u 27, u 28, u 29, u 30, u 31, u 32, u 33, u 34, u 35, u 36, u 37, u 38, u 39, u 40, u 41, u 42, u 43, u 44, u 45, u 46, u 47, u 48, u 49, u 50, u 51, u 52, u 53, u 54, u 55, u 56, u 57, u 58, u 59, u 60, u 61, u 62, u 63, u 64, u 65, u 66, u 67, u 68, u 69, u 70, u 71, u 72, u 73, u 74, u 75, u 76, u 77, u 78, u 79, u 80, u 81, u 82, u 83, u 84, u 85, u 86, u 87, u 88, u 89, u 90, u 91, u 92, u 93, u 94, u 95, u 96, u 97, u 98, u 99, u 100, u 101, u 102, u 103, u 104, u 105, u 106, u 107, u 108, u 109, u 110, u 111, u 112, u 113, u 114, u 115, u 116, u 117, u 118, u 119, u 120, u 121, u 122, u 123, u 124, u 125, u 126, u 127, u 128, u 129, u 130, u 131, u 132, u 133, u 134, u 135, u 136, u 137, u 138, u 139, u 140, u 141, u 142, u 143, u 144, u 145, u 146, u 147, u 148, u 149, u 150, u 151, u 152, u 153, u 154, u 155, u 156, u 157, u 158, u 159, u 160, u 161, u 162, u 163, u 164, u 165, u 166, u 167, u 168, u 169, u 170, u 171, u 172, u 173, u 174, u 175, u 176, u 177, u 178, u 179, u 180, u 181, u 182, u 183, u 184, u 185, u 186, u 187, u 188, u 189], defers := marks Ds } ∧ Turn w7 T bT Ds W) 2 ?_ ?_
        · exact ⟨0, bT, [], ex_frame1 rfl HT0.out⟩
        · rintro j a' W ⟨T, bT, Ds, u, rfl, rfl, T0, T2, hbT, hT14, hM, hB⟩ J K hJ hK
          have zW := hB.size
          have a14 := hT14.cell 0
          have f14 := hT14.frozen 0
          have hDs := hM.lt
          have lt14 := hT14.lt
          obtain ⟨AL, cl, hcells⟩ := HRd.out.cells
          have HCL := Lib.hid hcells
          clear hcells HT0
          by_cases hT : T < 2
          · gi_wp2
            have cA : Blk ((W.alloc (.cells #[.int .i64 0] 3)).alloc (.cells #[.int .i64 0] 3)) W.heap.size 3 #[.int .i64 0] := (Blk.new W 3 _).alloc _
            have cN : Blk ((W.alloc (.cells #[.int .i64 0] 3)).alloc (.cells #[.int .i64 0] 3)) (W.heap.size + 1) 3 #[.int .i64 0] := Blk.at (W.alloc _) 3 _ (by simp)
            have hBn : Below w7.heap.size w7 ((W.alloc (.cells #[.int .i64 0] 3)).alloc (.cells #[.int .i64 0] 3)) := (hB.alloc hB.size _).alloc (by simp; omega) _
            have zn : ((W.alloc (.cells #[.int .i64 0] 3)).alloc (.cells #[.int .i64 0] 3)).heap.size = W.heap.size + 2 := by simp
            have hG0 : Goes t r.L.length w7 T bT W.heap.size (W.heap.size + 1) Ds [] ((W.alloc (.cells #[.int .i64 0] 3)).alloc (.cells #[.int .i64 0] 3)) := ⟨0, Nat.zero_le _, rfl, cA, cN, (hT14.alloc _).alloc _, (hM.othersN (KeepsOthers.alloc _ _)).othersN (KeepsOthers.alloc _ _), hBn⟩
            have hov := HRd.out.over.keep (KeepP.below hBn HXW.out)
            refine wpIn_rangeFunc_told rfl (by omega) (gf := 45) (lb := #[.pointer (some ⟨BB, 0, none⟩)]) rfl trivial (enters_of Tryz.func45 (by kernel_rfl) rfl)
              (over_tells (12 - 1) (by omega) hov (D := w7.heap.size) HXW.out hBn.size) (fun h k => h.trans k)
              (fun Wq o o' hk ho => Kp85.turn Wq hk ho (fun h => by have h1 := HXW.out _ h; have h2 : w7.heap.size ≤ W.heap.size := zW; rw [zn] at h1; omega))
              (Below.refl _ _) (fun _ => rfl)
              (Goes t r.L.length w7 T bT W.heap.size (W.heap.size + 1) Ds) (Left t r.L.length lv w7 T bT W.heap.size (W.heap.size + 1) Ds)
              (goes_own (by omega) (by omega) (by omega) (fun D hD => by have := hDs D hD; omega) (by omega)) (left_own (by omega) (by omega) (by omega) (fun D hD => by have := hDs D hD; omega) (by omega)) hG0
              (fun x a' Vq => FreshN w7.heap.size (nowL t r.L.length) x Vq ∧ ∃ (Br Bx : Nat) (u : Nat → Value), (Blk Vq Br 34 #[.int .i64 x.i, .int .u64 x.q] ∧ Blk Vq Bx 43 #[.int .u64 x.x.b, .int .u64 x.x.p, .slice x.x.a x.x.m x.x.c, .int .i64 x.x.n]) ∧ a' = { tmps := #[.int .i64 size, .slice A k c9, .int .i64 lv, u 3, u 4, .pointer (some ⟨w.heap.size, 0, none⟩), .pointer (some ⟨w.heap.size + 1, 0, none⟩), .pointer (some ⟨c, 0, none⟩), u 8, .pointer (some ⟨b9, 0, none⟩), u 10, .func (.func 45) #[] #[.pointer (some ⟨BB, 0, none⟩)], .pointer (some ⟨bT, 0, none⟩), .pointer (some ⟨W.heap.size, 0, none⟩), .pointer (some ⟨W.heap.size + 1, 0, none⟩), .pointer (some ⟨Br, 0, none⟩), .pointer (some ⟨Bx, 0, none⟩), u 17, u 18, u 19, u 20, u 21, u 22, u 23, u 24, u 25, u 26, u 27, u 28, u 29, u 30, u 31, u 32, u 33, u 34, u 35, u 36, u 37, u 38, u 39, u 40, u 41, u 42, u 43, u 44, u 45, u 46, u 47, u 48, u 49, u 50, u 51, u 52, u 53, u 54, u 55, u 56, u 57, u 58, u 59, u 60, u 61, u 62, u 63, u 64, u 65, u 66, u 67, u 68, u 69, u 70, u 71, u 72, u 73, u 74, u 75, u 76, u 77, u 78, u 79, u 80, u 81, u 82, u 83, u 84, u 85, u 86, u 87, u 88, u 89, u 90, u 91, u 92, u 93, u 94, u 95, u 96, u 97, u 98, u 99, u 100, u 101, u 102, u 103, u 104, u 105, u 106, u 107, u 108, u 109, u 110, u 111, u 112, u 113, u 114, u 115, u 116, u 117, u 118, u 119, u 120, u 121, u 122, u 123, u 124, u 125, u 126, u 127, u 128, u 129, u 130, u 131, u 132, u 133, u 134, u 135, u 136, u 137, u 138, u 139, u 140, u 141, u 142, u 143, u 144, u 145, u 146, u 147, u 148, u 149, u 150, u 151, u 152, u 153, u 154, u 155, u 156, u 157, u 158, u 159, u 160, u 161, u 162, u 163, u 164, u 165, u 166, u 167, u 168, u 169, u 170, u 171, u 172, u 173, u 174, u 175, u 176, u 177, u 178, u 179, u 180, u 181, u 182, u 183, u 184, u 185, u 186, u 187, u 188, u 189], defers := [] } ∧ True)
              (fun x a' _ Xq Yq row hs hg hr => by
                obtain ⟨h1, Br, Bx, v, ⟨h2, h3⟩, h4⟩ := hs
                exact ⟨h1.keep hg (fun r e => (hr r e).2), Br, Bx, v, ⟨blk_keep h2 hg (fun r e => (hr r e).2), blk_keep h3 hg (fun r e => (hr r e).2)⟩, h4⟩)
              ?assign ?body ?done ?stop
            case assign =>
              rintro l' pre x Vq K2 hI hFr hK2
              have hA := goes_own (t := t) (N := r.L.length) (Wb := w7) (T := T) (bT := bT) (bA := W.heap.size) (bN := W.heap.size + 1) (C := W.heap.size + 2) (Ds := Ds) (by omega) (by omega) (by omega) (fun D hD => by have := hDs D hD; omega) (by omega)
              have hz : w7.heap.size ≤ Vq.heap.size := by obtain ⟨_, _, q⟩ := hI; exact q.below.size
              simp only [Nam.encs]
              gi_wp2
              have hcq : Chg [] Vq ((Vq.alloc (.cells #[.int .i64 x.i, .int .u64 x.q] 34)).alloc (.cells #[.int .u64 x.x.b, .int .u64 x.x.p, .slice x.x.a x.x.m x.x.c, .int .i64 x.x.n] 43)) := ((Chg.refl [] Vq).alloc _).alloc _
              have hg := grown_of_chg hcq
              exact hK2 _ _ (((KeepsOthers.alloc _ _).trans (KeepsOthers.alloc _ _)).from _) (Kp85.quiet hcq (fun k hk => Nat.lt_of_lt_of_le (HXW.out k hk) hz)) (hA _ _ _ none hI hg (fun r e => by cases e)) ⟨hFr.keep hg (fun r e => by cases e), Vq.heap.size, Vq.heap.size + 1, ex_frame3 ⟨(Blk.new Vq 34 _).alloc _, Blk.at (Vq.alloc _) 43 _ (by simp)⟩ trivial⟩
            case body =>
              rintro l' pre ⟨xi, xq, xb, xp, xa, xm, xc, xn, xl⟩ a' V ⟨a, ha, hG⟩ ⟨hF, Br, Bx, u, ⟨bR, bX⟩, rfl, _⟩ hlt
              obtain ⟨M, hMM⟩ : ∃ M, M = r.L.length := ⟨_, rfl⟩
              have HMm := Lib.hid hMM
              have hM100 : M ≤ 100 := by rw [hMM]; exact HRd.out.len
              rw [← hMM] at ha
              clear hMM hlt
              obtain ⟨hro, hft, hln, hmem⟩ := hF
              have HRO : Hid (Ro V (.slice xa xm xc) xl) := Lib.hid hro
              have HFT : Hid (∀ k ∈ foot (.slice xa xm xc), w7.heap.size ≤ k) := Lib.hid hft
              have HLN : Hid (xl.length ≤ 100000) := Lib.hid hln
              have HBR : Hid (Blk V Br 34 #[.int .i64 xi, .int .u64 xq]) := Lib.hid bR
              have HBX : Hid (Blk V Bx 43 #[.int .u64 xb, .int .u64 xp, .slice xa xm xc, .int .i64 xn]) := Lib.hid bX
              have hxm : xl.length = xm := by
                obtain ⟨A', c', hv, _⟩ := HRO.out.rd
                simp only [Value.slice.injEq] at hv
                omega
              have hxm9 : xm ≤ 100000 := by have := HLN.out; omega
              have HXM := Lib.hid hxm
              have HG := Lib.hid hG
              have HVG := Lib.hid hG
              have HAH := Lib.hid ha
              clear hG hro hft hln hmem bR bX hxm
              gi_wp2
              gi_loopg [] (M - a) (fun G V' => ∃ q : Nat, q + G = M ∧ Hid (GoesAt t w7 T bT W.heap.size (W.heap.size + 1) Ds q pre V') ∧ Hid (KeepsOthers V V') ∧ Hid (Chg [W.heap.size] V V'))
              case atStart => exact ⟨a, by have := HAH.out; omega, HG, Lib.hid (KeepsOthers.refl V), Lib.hid (Chg.refl _ _)⟩
              case round =>
                clear HG
                obtain ⟨q, hq, HG, HK, HC⟩ := hrel
                obtain ⟨e9, eh, e5, e6, f6, hrow⟩ := HCL.out _ HG.out.below
                have g13 := HG.out.at_.cell 0
                have fg13 := HG.out.at_.frozen 0
                have hbR := HBR.out.chg HC.out (by simpa using fun e => Blk.ty HBR.out HVG.out.at_ (by decide) e)
                have hbX := HBX.out.chg HC.out (by simpa using fun e => Blk.ty HBX.out HVG.out.at_ (by decide) e)
                have hRo : Rd wr (.slice xa xm xc) xl := HRO.out.rd.chg HC.out (fun k hk hm => by simp at hm; subst hm; exact Rs.ty HRO.out.rd HVG.out.at_ (by decide) hk)
                have r0 := hbR.cell 0
                have r1 := hbR.cell 1
                have x0 := hbX.cell 0
                have x1 := hbX.cell 1
                have x2 := hbX.cell 2
                have x3 := hbX.cell 3
                simp only [List.getElem?_toArray, List.getElem?_cons_succ, List.getElem?_cons_zero] at r0 r1 x0 x1 x2 x3 g13
                have HbX := Lib.hid hbX
                have HRo := Lib.hid hRo
                clear hbR hbX hRo
                rw [← HMm.out] at eh
                cases gk with
                | zero =>
                  obtain rfl : q = M := by omega
                  have dlt : decide ((q : Int) < (q : Int)) = false := by simp
                  have deq : ((q : Int) == (q : Int)) = true := by simp
                  gi_wp2
                  refine wpIn_region_quiet_round (F := Fence.wide) l' rfl (by rfl) (by kernel_rfl) (by kernel_rfl) ?_
                  repeat (first
                    | gi_big_quiet_step (fail)
                    | (refine wpQuietIn_step (by unfold Oper.askedIn; intros; trivial) (fun K hK => ?_); go_simp; refine hK _ ?_; clear hK K))
                  refine wpQuietIn_nil ?_
                  intro _ hw'
                  obtain ⟨nq, hw''⟩ := hw'
                  subst hw''
                  gi_wp2
                  refine wpIn_region_quiet_round (F := Fence.wide) l' rfl (by rfl) (by kernel_rfl) (by kernel_rfl) ?_
                  repeat (first
                    | gi_big_quiet_step (fail)
                    | (refine wpQuietIn_step (by unfold Oper.askedIn; intros; trivial) (fun K hK => ?_); go_simp; refine hK _ ?_; clear hK K))
                  refine wpQuietIn_nil ?_
                  intro _ hw'
                  obtain ⟨nr, hw''⟩ := hw'
                  subst hw''
                  gi_wp2
                  exact ⟨(((HK.out.trans (KeepsOthers.drewN _ _)).trans (KeepsOthers.setCell _ _ _))).from _, .inr ⟨rfl, now_end _ (by rw [HG.out.pre_, HMm.out])⟩⟩
                | succ G =>
                  obtain ⟨p, hp⟩ : ∃ p, r.L[q]? = some p := ⟨_, List.getElem?_eq_getElem (by rw [← HMm.out]; omega)⟩
                  obtain ⟨gl, rfl, rg, rt, rb0, rp0, ra0, rn0, hrd⟩ := hrow q p hp
                  have HRDp := Lib.hid hrd
                  have HP := Lib.hid hp
                  have dlt : decide ((q : Int) < (M : Int)) = true := by simp; omega
                  have deq : ((q : Int) == (M : Int)) = false := by simp; omega
                  have i0 : (0 : Int) ≤ (q : Int) := by omega
                  have i1 : (q : Int) < (M : Int) := by omega
                  clear hrow hp hrd
                  cases hth : p.there with
                  | false =>
                    rw [hth] at rt
                    have HTH := Lib.hid hth
                    clear hth
                    gi_wp2
                    refine wpIn_region_quiet_round (F := Fence.wide) l' rfl (by rfl) (by kernel_rfl) (by kernel_rfl) ?_
                    repeat (first
                      | gi_big_quiet_step (fail)
                      | (refine wpQuietIn_step (by unfold Oper.askedIn; intros; trivial) (fun K hK => ?_); go_simp; refine hK _ ?_; clear hK K))
                    refine wpQuietIn_nil ?_
                    intro _ hw'
                    obtain ⟨nq, hw''⟩ := hw'
                    subst hw''
                    gi_wp2
                    gi_roundg G
                    case measure => omega
                    case rel => exact ⟨q + 1, by omega, Lib.hid ((HG.out.skip (HRd.out.sim.now_no HP.out HTH.out) (by omega) (by omega) zW).drewN _), Lib.hid ((HK.out.trans (KeepsOthers.setCell _ _ _)).trans (KeepsOthers.drewN _ _)), Lib.hid ((HC.out.setCell (p := ⟨W.heap.size, 0, none⟩) (.inl (by simp)) _).drewN _)⟩
                  | true =>
                    rw [hth] at rt
                    obtain ⟨y, hy1, hy2, hy3, hy4⟩ := HRd.out.sim.now_yes HP.out hth
                    have HY1 := Lib.hid hy1
                    have HY2 := Lib.hid hy2
                    have HY3 := Lib.hid hy3
                    have HY4 := Lib.hid hy4
                    obtain ⟨pg, pt, ⟨pb, pp, pa, pm, pc, pn, pl⟩, pf⟩ := p
                    simp only at rg rt rb0 rp0 ra0 rn0 HRDp HY3 HY4
                    clear hth hy1 hy2 hy3 hy4
                    have HNO : Hid (¬ (xi = (q : Int) ∧ xq = pg ∧ sameB ⟨xb, xp, xa, xm, xc, xn, xl⟩ ⟨pb, pp, pa, pm, pc, pn, pl⟩ = true) → ¬ ((pre ++ [(⟨xi, xq, xb, xp, xa, xm, xc, xn, xl⟩ : Nam)]).map Nam.strip <+: (nowL t r.L.length).map Nam.strip)) := Lib.hid fun hno =>
                      now_other (by rw [← HMm.out]; omega) HY1.out HG.out.pre_ (fun e => by
                        obtain ⟨f1, f2, f3⟩ := strip_iff.1 e
                        exact hno ⟨by rw [← HY2.out]; exact f1.symm, by rw [← HY3.out]; exact f2.symm, sameB_iff.2 (f3.symm.trans HY4.out)⟩)
                    by_cases href : xi = (q : Int) ∧ xq = pg
                    · have hrun := ref_yes href
                      obtain ⟨sb, hsb⟩ : ∃ sb, sb = sameB ⟨xb, xp, xa, xm, xc, xn, xl⟩ ⟨pb, pp, pa, pm, pc, pn, pl⟩ := ⟨_, rfl⟩
                      have HSO := Lib.hid (fun Wz (hcz : Chg [] wr Wz) => sameone_any (x := ⟨xb, xp, xa, xm, xc, xn, xl⟩) (y := ⟨pb, pp, pa, pm, pc, pn, pl⟩) (HRo.out.quiet hcz) (HRDp.out.quiet hcz) HLN.out)
                      rw [← hsb] at HSO
                      have HSB := Lib.hid hsb
                      clear hsb
                      gi_wp2
                      refine wpIn_region_quiet_round (F := Fence.wide) l' rfl (by rfl) (by kernel_rfl) (by kernel_rfl) ?_
                      repeat (first
                        | gi_big_quiet_step (fail)
                        | (refine wpQuietIn_step (by unfold Oper.askedIn; intros; trivial) (fun K hK => ?_); go_simp; refine hK _ ?_; clear hK K))
                      refine wpQuietIn_nil ?_
                      intro _ hw'
                      obtain ⟨nq, hw''⟩ := hw'
                      subst hw''
                      have hcz : Chg [] wr (wr.drewN nq) := (Chg.refl _ _).drewN _
                      have CQ : ∀ d os, CallsIn Fence.wide (12 - 1 - 1 - 1 - 1 - 1) Tryz.prog 19 #[.agg #[.int .u64 xb, .int .u64 xp, .slice xa xm xc, .int .i64 xn], .agg #[.int .u64 pb, .int .u64 pp, .slice pa pm pc, .int .i64 pn]] (Go.Sort.grow (redrawn (wr.drewN nq) d) os) fun e w'' => e = .returned (.bool sb) ∧ ∃ p : Regrown, w'' = Go.Sort.grow (redrawn (wr.drewN nq) p.d) p.os := fun d os =>
                        CallsIn.regrown_of (callsIn_wide.2 ((HSO.out _ (hcz.then (Chg.of_below (below_regrown (wr.drewN nq) d os)))).mono (fun e w' ⟨h1, h2⟩ => ⟨h1, h2.to_below⟩)))
                      have k9 := cell_regrown (w := wr.drewN nq) e9
                      have kh := cell_regrown (w := wr.drewN nq) eh
                      have k13 := cell_regrown (w := wr.drewN nq) g13
                      have kr0 := cell_regrown (w := wr.drewN nq) r0
                      have kr1 := cell_regrown (w := wr.drewN nq) r1
                      have kx0 := cell_regrown (w := wr.drewN nq) x0
                      have kx1 := cell_regrown (w := wr.drewN nq) x1
                      have kx2 := cell_regrown (w := wr.drewN nq) x2
                      have kx3 := cell_regrown (w := wr.drewN nq) x3
                      have kg := cell_regrown (w := wr.drewN nq) rg
                      have kb0 := cell_regrown (w := wr.drewN nq) rb0
                      have kp0 := cell_regrown (w := wr.drewN nq) rp0
                      have ka0 := cell_regrown (w := wr.drewN nq) ra0
                      have kn0 := cell_regrown (w := wr.drewN nq) rn0
                      clear e9 eh e5 e6 f6 g13 fg13 r0 r1 x0 x1 x2 x3 rg rt rb0 rp0 ra0 rn0
                      gi_wp2
                      refine wpIn_region_below_round (F := Fence.wide) l' rfl (by rfl) (by kernel_rfl) (by kernel_rfl) ?_
                      repeat (first
                        | gi_big_quiet_step (fail)
                        | (refine BigFrame.wpQuietIn_want (by unfold Oper.askedIn; intros; trivial) rfl (fun K hK => ?_); gi_big_quiet_op; apply Exists.intro; refine ⟨fun _ => ?_, ?_⟩; (gi_at_call 19; exact CQ _ _); refine hK _ ?_; clear hK K)
                        | (refine wpQuietIn_step (by unfold Oper.askedIn; intros; trivial) (fun K hK => ?_); go_simp; refine hK _ ?_; clear hK K))
                      refine wpQuietIn_nil ?_
                      intro _ hw'
                      obtain ⟨⟨dq, osq⟩, hw''⟩ := hw'
                      subst hw''
                      have hcV : Chg [] wr (Go.Sort.grow (redrawn (wr.drewN nq) dq) osq) := hcz.then (Chg.of_below (below_regrown (wr.drewN nq) dq osq))
                      clear k9 kh k13 kr0 kr1 kx0 kx1 kx2 kx3 kg kb0 kp0 ka0 kn0 CQ hcz
                      generalize Go.Sort.grow (redrawn (wr.drewN nq) dq) osq = U at hcV ⊢
                      have hGU := HG.out.chg hcV (KeepsOthers.of_chg hcV) (by simp) (by simp) (by simp) (by simp)
                      obtain ⟨u9, uh, u5, u6, uf6, _⟩ := HCL.out _ hGU.below
                      have HKU := Lib.hid (HK.out.trans (KeepsOthers.of_chg hcV))
                      cases sb with
                      | false =>
                        have HN := Lib.hid (HNO.out (fun h => by have := h.2.2; rw [← HSB.out] at this; cases this))
                        clear hGU
                        gi_wp2
                        exact ⟨(HKU.out.trans (KeepsOthers.setCell _ _ _)).from _, .inr ⟨rfl, HN.out⟩⟩
                      | true =>
                        have HE : Hid ((⟨xi, xq, xb, xp, xa, xm, xc, xn, xl⟩ : Nam).strip = y.strip) := Lib.hid (strip_iff.2 ⟨by rw [HY2.out]; exact href.1, by rw [HY3.out]; exact href.2, (sameB_iff.1 HSB.out.symm).trans HY4.out.symm⟩)
                        have HXU := Lib.hid (HbX.out.chg hcV (by simp))
                        have HRU := Lib.hid (HRo.out.quiet hcV)
                        have HGU := Lib.hid hGU
                        have HCV := Lib.hid (HC.out.then hcV)
                        clear hGU href hrun u9 uh u5 u6 uf6
                        gi_wp2
                        gi_loopg [17] xm (fun gq s wy => ∃ z : Nat, z + gq = xm ∧ s = .int .i64 z ∧ Hid (Turned U wy (.slice xa xm xc) xm) ∧ Hid (KeepsOthers U wy))
                        case atStart => exact ⟨0, by omega, rfl, Lib.hid (Turned.start HRU.out HXM.out), Lib.hid (KeepsOthers.refl _)⟩
                        case round =>
                          obtain ⟨z, hz, rfl, HT, HKO⟩ := hrel
                          have hcy := HT.out.choose_spec.2.2
                          have hXB := HXU.out.chg hcy (fun hm => Rs.ty HRU.out HXU.out (by decide) hm)
                          have y2 := hXB.cell 2
                          have ly := hXB.lt
                          simp only [List.getElem?_toArray, List.getElem?_cons_succ, List.getElem?_cons_zero] at y2
                          have zn0 : (0 : Int) ≤ (z : Int) := by omega
                          by_cases hzl : z < xm
                          · have zn1 : (z : Int) < (xm : Int) := by omega
                            obtain ⟨bb, oo, aa, tt, rfl, z0, z1, hfz, g0, g1⟩ := HT.out.form hzl
                            have f0 := hfz (oo + z * 2 + 1)
                            have G1 := Lib.hid g1
                            clear g0 g1 hfz hXB hcy
                            gi_wp2
                            gi_roundg (xm - z - 1)
                            case measure => omega
                            case rel => exact ⟨z + 1, by omega, by go_num, Lib.hid (G1.out _), Lib.hid (HKO.out.trans (KeepsOthers.setCell _ _ _))⟩
                          · obtain rfl : z = xm := by omega
                            have hGY := HGU.out.chg hcy HKO.out (fun hm => Rs.ty HRU.out HGU.out.at_ (by decide) hm) (fun hm => Rs.ty HRU.out HGU.out.n (by decide) hm) (fun hm => Rs.ty HRU.out HGU.out.turn (by decide) hm) HFT.out
                            obtain ⟨_, _, v5, _, _, _⟩ := HCL.out _ hGY.below
                            have v13 := hGY.at_.cell 0
                            have vf13 := hGY.at_.frozen 0
                            have v14 := hGY.n.cell 0
                            have vf14 := hGY.n.frozen 0
                            have vT := hGY.turn.cell 0
                            simp only [List.getElem?_toArray, List.getElem?_cons_zero] at v13 v14 vT
                            have lt5 := HRd.out.e5.lt
                            have ne5a : w.heap.size ≠ W.heap.size := by omega
                            have ne5b : w.heap.size ≠ W.heap.size + 1 := by omega
                            have ne5c : W.heap.size ≠ w.heap.size := by omega
                            have ne5d : W.heap.size + 1 ≠ w.heap.size := by omega
                            have HCO := Lib.hid (hGY.come (x := ⟨xi, xq, xb, xp, xa, z, xc, xn, xl⟩) HY1.out HE.out (by omega) (by omega) (by omega) zW (by omega))
                            have hq1 : q + 1 ≤ r.L.length := by rw [← HMm.out]; omega
                            have HQ1 := Lib.hid hq1
                            have ltn : pre.length ≤ 100 := by
                              have h1 := congrArg List.length HG.out.pre_
                              have h2 := nowL_len t q
                              simp at h1
                              omega
                            have HKZ := Lib.hid (((HKU.out.trans HKO.out).trans (KeepsOthers.setCell _ ⟨W.heap.size, 0, none⟩ (.int .i64 ((q : Int) + 1)))).trans (KeepsOthers.setCell _ ⟨W.heap.size + 1, 0, none⟩ (.int .i64 ((pre.length : Int) + 1))))
                            have hCH : Chg (W.heap.size :: (W.heap.size + 1) :: foot (.slice xa z xc)) V _ := ((((HCV.out.mono (S' := W.heap.size :: (W.heap.size + 1) :: foot (.slice xa z xc)) (fun k hk => .inl (by simp at hk; simp [hk]))).trans hcy (fun k hk => .inl (by simp [hk]))).setCell (p := ⟨W.heap.size, 0, none⟩) (.inl (by simp)) (.int .i64 ((q : Int) + 1))).setCell (p := ⟨W.heap.size + 1, 0, none⟩) (.inl (by simp)) (.int .i64 ((pre.length : Int) + 1)))
                            have HKP := Lib.hid (Kp85.chg (X := X) hCH (fun k hk => Nat.lt_of_lt_of_le (HXW.out k hk) HVG.out.below.size) (fun k hk => by
                              simp only [List.mem_cons] at hk
                              rcases hk with rfl | rfl | hk
                              · exact ⟨fun h => by have := HXW.out _ h; omega, fun cs h => Blk.ty HVG.out.at_ h (by decide) rfl⟩
                              · exact ⟨fun h => by have := HXW.out _ h; omega, fun cs h => Blk.ty HVG.out.n h (by decide) rfl⟩
                              · exact ⟨fun h => by have := HXW.out _ h; have := HFT.out k hk; omega, fun cs h => Rs.ty HRO.out.rd h (by decide) hk⟩))
                            clear hq1 hGY hcy hXB hCH
                            rcases (by omega : T = 0 ∨ T = 1) with rfl | rfl
                            · by_cases hlv : (pre.length : Int) + 1 = lv
                              · have hlb : ((pre.length : Int) + 1 == lv) = true := by simpa using hlv
                                have HL := Lib.hid hlv
                                clear hlv
                                gi_wp2
                                exact ⟨HKZ.out.from _, .inl ⟨rfl, rfl, by simpa using HL.out, q + 1, HQ1.out, HCO.out⟩⟩
                              · have hlb : ((pre.length : Int) + 1 == lv) = false := by simpa using hlv
                                clear hlv
                                gi_wp2
                                exact ⟨HKZ.out.from _, HKP.out, q + 1, HQ1.out, HCO.out⟩
                            · gi_wp2
                              exact ⟨HKZ.out.from _, HKP.out, q + 1, HQ1.out, HCO.out⟩
                    · have hrun := ref_no href
                      have HN := Lib.hid (HNO.out (fun h => href ⟨h.1, h.2.1⟩))
                      clear href
                      gi_wp2
                      refine wpIn_region_quiet_round (F := Fence.wide) l' rfl (by rfl) (by kernel_rfl) (by kernel_rfl) ?_
                      repeat (first
                        | gi_big_quiet_step (fail)
                        | (refine wpQuietIn_step (by unfold Oper.askedIn; intros; trivial) (fun K hK => ?_); go_simp; refine hK _ ?_; clear hK K))
                      refine wpQuietIn_nil ?_
                      intro _ hw'
                      obtain ⟨nq, hw''⟩ := hw'
                      subst hw''
                      gi_wp2
                      refine wpIn_region_quiet_round (F := Fence.wide) l' rfl (by rfl) (by kernel_rfl) (by kernel_rfl) ?_
                      repeat (first
                        | gi_big_quiet_step (fail)
                        | (refine wpQuietIn_step (by unfold Oper.askedIn; intros; trivial) (fun K hK => ?_); go_simp; refine hK _ ?_; clear hK K))
                      refine wpQuietIn_nil ?_
                      intro _ hw'
                      obtain ⟨nr, hw''⟩ := hw'
                      subst hw''
                      gi_wp2
                      exact ⟨(((HK.out.trans (KeepsOthers.drewN _ _)).trans (KeepsOthers.setCell _ _ _))).from _, .inr ⟨rfl, HN.out⟩⟩
            case done =>
              rintro D ys V hD hys ⟨a, ha, hG⟩ hKD
              have HYS := Lib.hid hys
              clear hys
              obtain ⟨M, hMM⟩ : ∃ M, M = r.L.length := ⟨_, rfl⟩
              have HMm := Lib.hid hMM
              have hM100 : M ≤ 100 := by rw [hMM]; exact HRd.out.len
              rw [← hMM] at ha
              clear hMM
              have HG := Lib.hid hG
              have HKD := Lib.hid hKD
              have HAH := Lib.hid ha
              clear hG hKD
              gi_wp2
              gi_loopg [] (M - a) (fun G V' => ∃ q : Nat, q + G = M ∧ Hid (GoesAt t w7 T bT W.heap.size (W.heap.size + 1) Ds q ys V') ∧ Hid (KeepsOthers V V'))
              case atStart => exact ⟨a, by have := HAH.out; omega, HG, Lib.hid (KeepsOthers.refl V)⟩
              case round =>
                clear HG
                obtain ⟨q, hq, HG, HK⟩ := hrel
                obtain ⟨e9, eh, e5, e6, f6, hrow⟩ := HCL.out _ HG.out.below
                have g13 := HG.out.at_.cell 0
                have fg13 := HG.out.at_.frozen 0
                have gT := HG.out.turn.cell 0
                have g14 := HG.out.n.cell 0
                simp only [List.getElem?_toArray, List.getElem?_cons_zero] at g13 gT g14
                rw [← HMm.out] at eh
                have HTN : ∀ n, Hid (Turn w7 (T + 1) wr.heap.size (D :: Ds) ((wr.drewN n).alloc (.cells #[.int .i64 (T + 1)] 3))) := fun n => Lib.hid (Turn.next (T := T) (C := W.heap.size + 2) (D := D) (by omega) (by omega) (HG.out.drewN n) (fun D hD => by have := hDs D hD; omega) (by omega) (by omega) (HK.out.same D _ HKD.out rfl))
                have dc : ∀ n v t, ((wr.drewN n).alloc (.cells #[v] t)).cell? { block := wr.heap.size, off := 0 } = some v := fun n v t => drew_cell n v t
                have df : ∀ n v t, ((wr.drewN n).alloc (.cells #[v] t)).frozen? { block := wr.heap.size, off := 0 } = false := fun n v t => drew_frozen n v t
                have dm : ∀ n v x t, ((wr.drewN n).alloc (.cells #[v] t)).setCell { block := wr.heap.size, off := 0 } x = (wr.drewN n).alloc (.cells #[x] t) := fun n v x t => drew_set n v x t
                cases gk with
                | zero =>
                  obtain rfl : q = M := by omega
                  have dlt : decide ((q : Int) < (q : Int)) = false := by simp
                  gi_wp2
                  gi_quiet (fail)
                  gi_wp2
                  gi_quiet (fail)
                  gi_wp2
                  exact Handed.intro (2 - (T + 1)).toNat (by omega) (hJ _ _ _ ⟨T + 1, wr.heap.size, D :: Ds, ex_frame1 rfl (HTN _).out⟩)
                | succ G =>
                  obtain ⟨p, hp⟩ : ∃ p, r.L[q]? = some p := ⟨_, List.getElem?_eq_getElem (by rw [← HMm.out]; omega)⟩
                  obtain ⟨gl, rfl, rg, rt, _, _, _, _, _⟩ := hrow q p hp
                  have HP := Lib.hid hp
                  have dlt : decide ((q : Int) < (M : Int)) = true := by simp; omega
                  have i0 : (0 : Int) ≤ (q : Int) := by omega
                  have i1 : (q : Int) < (M : Int) := by omega
                  clear hrow hp
                  cases hth : p.there with
                  | false =>
                    rw [hth] at rt
                    have HTH := Lib.hid hth
                    clear hth
                    gi_wp2
                    gi_quiet (fail)
                    gi_wp2
                    gi_roundg G
                    case measure => omega
                    case rel => exact ⟨q + 1, by omega, Lib.hid ((HG.out.skip (HRd.out.sim.now_no HP.out HTH.out) (by omega) (by omega) zW).drewN _), Lib.hid ((HK.out.trans (KeepsOthers.setCell _ _ _)).trans (KeepsOthers.drewN _ _))⟩
                  | true =>
                    obtain ⟨y, hy1, _⟩ := HRd.out.sim.now_yes HP.out hth
                    exact (now_all (N := r.L.length) (by rw [← HMm.out]; omega) hy1 HYS.out HG.out.pre_).elim
            case stop =>
              rintro D c' pre V hD hpre (⟨rfl, rfl, hlv, a, ha, hG⟩ | ⟨rfl, hno⟩) hKD
              · have HLV := Lib.hid hlv
                clear hlv
                obtain ⟨M, hMM⟩ : ∃ M, M = r.L.length := ⟨_, rfl⟩
                have HMm := Lib.hid hMM
                have hM100 : M ≤ 100 := by rw [hMM]; exact HRd.out.len
                rw [← hMM] at ha
                clear hMM
                have HG := Lib.hid hG
                have HKD := Lib.hid hKD
                have HAH := Lib.hid ha
                clear hG hKD
                gi_wp2
                gi_loopg [] (M - a) (fun G V' => ∃ q : Nat, q + G = M ∧ Hid (GoesAt t w7 0 bT W.heap.size (W.heap.size + 1) Ds q pre V') ∧ Hid (KeepsOthers V V'))
                case atStart => exact ⟨a, by have := HAH.out; omega, HG, Lib.hid (KeepsOthers.refl V)⟩
                case round =>
                  clear HG
                  obtain ⟨q, hq, HG, HK⟩ := hrel
                  obtain ⟨e9, eh, e5, e6, f6, hrow⟩ := HCL.out _ HG.out.below
                  have g13 := HG.out.at_.cell 0
                  have fg13 := HG.out.at_.frozen 0
                  have gT := HG.out.turn.cell 0
                  have g14 := HG.out.n.cell 0
                  simp only [List.getElem?_toArray, List.getElem?_cons_zero] at g13 gT g14
                  rw [← HMm.out] at eh
                  have HTN : ∀ n, Hid (Turn w7 (1) wr.heap.size (D :: Ds) ((wr.drewN n).alloc (.cells #[.int .i64 (1)] 3))) := fun n => Lib.hid (Turn.next (T := 0) (C := W.heap.size + 2) (D := D) (by omega) (by omega) (HG.out.drewN n) (fun D hD => by have := hDs D hD; omega) (by omega) (by omega) (HK.out.same D _ HKD.out rfl))
                  have dc : ∀ n v t, ((wr.drewN n).alloc (.cells #[v] t)).cell? { block := wr.heap.size, off := 0 } = some v := fun n v t => drew_cell n v t
                  have df : ∀ n v t, ((wr.drewN n).alloc (.cells #[v] t)).frozen? { block := wr.heap.size, off := 0 } = false := fun n v t => drew_frozen n v t
                  have dm : ∀ n v x t, ((wr.drewN n).alloc (.cells #[v] t)).setCell { block := wr.heap.size, off := 0 } x = (wr.drewN n).alloc (.cells #[x] t) := fun n v x t => drew_set n v x t
                  cases gk with
                  | zero =>
                    obtain rfl : q = M := by omega
                    have dlt : decide ((q : Int) < (q : Int)) = false := by simp
                    gi_wp2
                    gi_quiet (fail)
                    gi_wp2
                    gi_quiet (fail)
                    gi_wp2
                    exact Handed.intro 1 (by decide) (hJ _ _ _ ⟨1, wr.heap.size, D :: Ds, ex_frame1 (by decide) (HTN _).out⟩)
                  | succ G =>
                    obtain ⟨p, hp⟩ : ∃ p, r.L[q]? = some p := ⟨_, List.getElem?_eq_getElem (by rw [← HMm.out]; omega)⟩
                    obtain ⟨gl, rfl, rg, rt, _, _, _, _, _⟩ := hrow q p hp
                    have HP := Lib.hid hp
                    have dlt : decide ((q : Int) < (M : Int)) = true := by simp; omega
                    have i0 : (0 : Int) ≤ (q : Int) := by omega
                    have i1 : (q : Int) < (M : Int) := by omega
                    clear hrow hp
                    cases hth : p.there with
                    | false =>
                      rw [hth] at rt
                      have HTH := Lib.hid hth
                      clear hth
                      gi_wp2
                      gi_quiet (fail)
                      gi_wp2
                      gi_roundg G
                      case measure => omega
                      case rel => exact ⟨q + 1, by omega, Lib.hid ((HG.out.skip (HRd.out.sim.now_no HP.out HTH.out) (by omega) (by omega) zW).drewN _), Lib.hid ((HK.out.trans (KeepsOthers.setCell _ _ _)).trans (KeepsOthers.drewN _ _))⟩
                    | true =>
                      rw [hth] at rt
                      have hlb : ((pre.length : Int) == lv) = true := by simpa using HLV.out
                      have d14 : ((0 : Int) == 0) = true := rfl
                      gi_wp2
                      gi_quiet (fail)
                      gi_wp2
                      gi_quiet (fail)
                      gi_wp2
                      exact Handed.intro 1 (by decide) (hJ _ _ _ ⟨1, wr.heap.size, D :: Ds, ex_frame1 (by decide) (HTN _).out⟩)
              · exact absurd hpre hno
          · obtain rfl : T = 2 := by omega
            have k6 : Blk W (w.heap.size + 1) 4 #[.bool false] := HRd.out.e6.same (hB.block _ HRd.out.e6.lt)
            have K6 := Lib.hid k6
            clear k6
            gi_wp2_with (fail)
            refine ⟨trivial, (callsIn_wide.2 (known_any _)).mono ?_⟩
            rintro e w9 ⟨rfl, hb9⟩
            have q6 := K6.out.chg hb9 (by simp)
            have q6c := q6.cell 0
            have q6f := q6.frozen 0
            have Q6 := Lib.hid q6
            clear q6
            gi_wp2_with (fail)
            have z9 := hb9.size
            have hM5 : Marks w7.heap.size (w9.setCell ⟨w.heap.size + 1, 0, none⟩ (.bool true)) Ds := (hM.quiet hb9).othersN (KeepsOthers.setCell _ _ _)
            have hB5 : Chg [] w (w9.setCell ⟨w.heap.size + 1, 0, none⟩ (.bool true)) := ((HRd.out.chg.then_below hB HRd.out.chg.size).then hb9).setCell (p := ⟨w.heap.size + 1, 0, none⟩) (.inr (by simp)) _
            refine leaves_marks (B := w7.heap.size) (b := w.heap.size + 1) (ty := 4) (cs := #[.bool true]) (w0 := w9.setCell ⟨w.heap.size + 1, 0, none⟩ (.bool true)) (by simp [World.setCell]; omega) ?_ Ds _ hM5 (Below.refl _ _) (by have := Q6.out.set_ 0 (.bool true); simpa using this)
            intro W' hB' hH'
            have hc' := hH'.cell 0
            simp at hc'
            refine ⟨.bool true, ?_, rfl, hB5.then_below hB' HRd.out.chg.size⟩
            simp [results, Tryz.f5, go_sem, hc', Result.andThen]
theorem all_calls (size lv : Int) (V : Value) (l : List ActC) (w : World) (hV : Acts w V l) :
    Calls Tryz.prog 5 #[.int .i64 size, V, .int .i64 lv] w fun e w' => e = .returned (.bool true) ∧ Chg [] w w' := (callsIn_wide (n := 12)).1 (all_any size lv V l w hV)
end Go.Proofs
end
