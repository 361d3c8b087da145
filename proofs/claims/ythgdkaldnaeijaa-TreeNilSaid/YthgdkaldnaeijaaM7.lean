import Derived.Test.YthgdkaldnaeijaaM6
section
namespace Go.Proofs
open Go.RowKit
set_option linter.unusedVariables false
set_option linter.unusedSimpArgs false

/-! ### Both forests -/
/-- The program's forest at f and the document's at d are both t, behind at most m acts; S, T are the blocks that calls turn, K those of the document's rows. -/
def Pair (w : World) (f d : Nat) (S T K : List Nat) (t : Fo) (m : Nat) : Prop :=
  ∃ c r, TreeAt w f S c ∧ Sim c t ∧ RefAt w d T K r ∧ RSim r t m ∧ ∀ k ∈ S, k ∉ T ∧ k ∉ K
theorem Pair.chg {w w' : World} {f d : Nat} {S T K S' : List Nat} {t : Fo} {m : Nat} (h : Pair w f d S T K t m) (hc : Chg S' w w') (h1 : ∀ k ∈ S, k ∉ S') (h2 : ∀ k ∈ T, k ∉ S') (h3 : ∀ k ∈ K, k ∉ S') : Pair w' f d S T K t m := by
  obtain ⟨c, r, a1, a2, a3, a4, a5⟩ := h
  exact ⟨c, r, a1.chg hc h1, a2, a3.chg hc h2 h3, a4, a5⟩
theorem Pair.quiet {w w' : World} {f d : Nat} {S T K : List Nat} {t : Fo} {m : Nat} (h : Pair w f d S T K t m) (hc : Chg [] w w') : Pair w' f d S T K t m :=
  h.chg hc (fun _ _ h => by cases h) (fun _ _ h => by cases h) (fun _ _ h => by cases h)
theorem Pair.lt {w : World} {f d : Nat} {S T K : List Nat} {t : Fo} {m : Nat} (h : Pair w f d S T K t m) : ∀ k ∈ S ++ (T ++ K), k < w.heap.size := by
  obtain ⟨c, r, a1, a2, a3, a4, a5⟩ := h
  intro k hk
  rcases List.mem_append.1 hk with h | h
  · exact a1.lt k h
  · rcases List.mem_append.1 h with h | h
    · exact a3.ltT k h
    · exact a3.ltK k h
/-- What an act leaves of both. -/
def PTurns (f d : Nat) (S T K : List Nat) (t' : Fo) (m' : Nat) (w w' : World) : Prop :=
  ∃ S' K', Pair w' f d S' T K' t' m' ∧ (∀ k ∈ S', k ∈ S ∨ w.heap.size ≤ k) ∧ (∀ k ∈ K', k ∈ K ∨ w.heap.size ≤ k) ∧ Chg (S ++ T) w w'
theorem PTurns.refl {w w' : World} {f d : Nat} {S T K : List Nat} {t : Fo} {m : Nat} (h : Pair w f d S T K t m) (hc : Chg [] w w') : PTurns f d S T K t m w w' :=
  ⟨S, K, h.quiet hc, fun k hk => .inl hk, fun k hk => .inl hk, hc.any⟩
theorem PTurns.later {a b e : World} {f d : Nat} {S T K : List Nat} {t : Fo} {m : Nat} (h : PTurns f d S T K t m a b) (hc : Chg [] b e) : PTurns f d S T K t m a e := by
  obtain ⟨S', K', h1, h2, h3, h4⟩ := h
  exact ⟨S', K', h1.quiet hc, h2, h3, h4.then hc⟩
theorem PTurns.earlier {a b e : World} {f d : Nat} {S T K : List Nat} {t : Fo} {m : Nat} (h : PTurns f d S T K t m b e) (hc : Chg [] a b) : PTurns f d S T K t m a e := by
  obtain ⟨S', K', h1, h2, h3, h4⟩ := h
  exact ⟨S', K', h1, fun k hk => (h2 k hk).imp id (fun h => Nat.le_trans hc.size h), fun k hk => (h3 k hk).imp id (fun h => Nat.le_trans hc.size h), (Chg.any hc).trans h4 (fun k hk => .inl hk)⟩
theorem PTurns.trans {a b e : World} {f d : Nat} {S T K S1 K1 : List Nat} {t : Fo} {m : Nat} (hS : ∀ k ∈ S1, k ∈ S ∨ a.heap.size ≤ k) (hK : ∀ k ∈ K1, k ∈ K ∨ a.heap.size ≤ k) (hc : Chg (S ++ T) a b) (h : PTurns f d S1 T K1 t m b e) : PTurns f d S T K t m a e := by
  obtain ⟨S', K', h1, h2, h3, h4⟩ := h
  refine ⟨S', K', h1, fun k hk => ?_, fun k hk => ?_, hc.trans h4 (fun k hk => ?_)⟩
  · rcases h2 k hk with h | h
    · exact hS k h
    · exact .inr (Nat.le_trans hc.size h)
  · rcases h3 k hk with h | h
    · exact hK k h
    · exact .inr (Nat.le_trans hc.size h)
  · rcases List.mem_append.1 hk with h | h
    · exact (hS k h).imp (fun h => by simp [h]) id
    · exact .inl (by simp [h])
section
variable {f d : Nat} {S T K : List Nat} {t t' : Fo} {m : Nat}
/-- The program first, then the document. -/
theorem pair_fd {w w1 w2 : World} {c' : Tr} {r r' : Rf} (h1 : Turns f S c' w w1) (hs : Sim c' t') (hr : RefAt w d T K r) (h2 : RTurns d T K r' w1 w2) (hs2 : RSim r' t' (m + 1)) (hS : ∀ k ∈ S, k < w.heap.size) (hap : ∀ k ∈ S, k ∉ T ∧ k ∉ K) : PTurns f d S T K t' (m + 1) w w2 := by
  obtain ⟨S', a1, a2, a3⟩ := h1
  obtain ⟨K', b1, b2, b3⟩ := h2
  have hT1 := hr.ltT
  have hK1 := hr.ltK
  have apT : ∀ k ∈ S', k ∉ T := fun k hk hkT => by
    rcases a2 k hk with h | h
    · exact (hap k h).1 hkT
    · have := hT1 k hkT; omega
  refine ⟨S', K', ⟨c', r', a1.chg b3 apT, hs, b1, hs2, fun k hk => ⟨apT k hk, fun hkK => ?_⟩⟩, a2, fun k hk => (b2 k hk).imp id (fun h => Nat.le_trans a3.size h), (a3.mono (fun k hk => .inl (by simp [hk]))).trans b3 (fun k hk => .inl (by simp [hk]))⟩
  rcases b2 k hkK with h | h
  · rcases a2 k hk with h9 | h9
    · exact (hap k h9).2 h
    · have := hK1 k h; omega
  · have := a1.lt k hk; omega
end
end Go.Proofs
end
section
namespace Go.Proofs
open Go.RowKit
set_option linter.unusedVariables false
set_option linter.unusedSimpArgs false

/-- A forest of the program's alone, in new memory; X are other blocks, which it has nothing to do with. -/
def CodeAt (w W : World) (f : Nat) (t : Fo) (X : List Nat) : Prop := ∃ S c, TreeAt W f S c ∧ Sim c t ∧ (∀ k ∈ S, w.heap.size ≤ k) ∧ Chg [] w W ∧ ∀ x ∈ X, x ∉ S ∧ x < W.heap.size
/-- These blocks are as they were. -/
def Kept (X : List Nat) (W W' : World) : Prop := ∀ x ∈ X, W'.heap[x]? = W.heap[x]?
theorem Rd.kept {W W' : World} {v : Value} {l : List Int} {X : List Nat} (h : Rd W v l) (hk : Kept X W W') (hv : ∀ k ∈ foot v, k ∈ X) : Rd W' v l := h.same fun k hk' => hk k (hv k hk')
section
variable {w W : World} {f : Nat} {t : Fo} {X : List Nat}
theorem CodeAt.chg0 (h : CodeAt w W f t X) : Chg [] w W := by obtain ⟨S, c, h1, h2, h3, h4, h5⟩ := h; exact h4
theorem CodeAt.quiet {W' : World} (h : CodeAt w W f t X) (hc : Chg [] W W') : CodeAt w W' f t X := by
  obtain ⟨S, c, h1, h2, h3, h4, h5⟩ := h
  exact ⟨S, c, h1.quiet hc, h2, h3, h4.then hc, fun x hx => ⟨(h5 x hx).1, Nat.lt_of_lt_of_le (h5 x hx).2 hc.size⟩⟩
theorem CodeAt.turn {S : List Nat} {c c' : Tr} {t' : Fo} {W' : World} (h1 : TreeAt W f S c) (h3 : ∀ k ∈ S, w.heap.size ≤ k) (h4 : Chg [] w W) (h5 : ∀ x ∈ X, x ∉ S ∧ x < W.heap.size) (hs : Sim c' t') (hT : Turns f S c' W W') : CodeAt w W' f t' X ∧ Kept X W W' := by
  obtain ⟨S', a, b, d⟩ := hT
  refine ⟨⟨S', c', a, hs, fun k hk => (b k hk).elim (fun h => h3 k h) (fun h => Nat.le_trans h4.size h), h4.trans d (fun k hk => .inr (h3 k hk)), fun x hx => ⟨fun hS => ?_, Nat.lt_of_lt_of_le (h5 x hx).2 d.size⟩⟩, fun x hx => d.block x (h5 x hx).2 (h5 x hx).1⟩
  rcases b x hS with h | h
  · exact (h5 x hx).1 h
  · have := (h5 x hx).2; omega
theorem CodeAt.new {n : Nat} (h1 : 1 ≤ n) (h2 : n ≤ 4096) (h0 : Chg [] w W) : Calls Try.prog 11 #[.int .i64 (n : Nat)] W fun e W' => ∃ f, e = .returned (.tuple #[ptr f, .int .i64 0]) ∧ CodeAt w W' f (Fo.new n) [] :=
  (new_any n h1 h2 W).mono fun e W' hh => ⟨_, hh.1, _, _, hh.2.1, Sim.new h1 h2, fun k hk => by simp at hk; subst hk; exact h0.size, h0.then hh.2.2, fun x hx => by cases hx⟩
theorem CodeAt.add (h : CodeAt w W f t X) (p : Int) : Calls Try.prog 27 #[ptr f, .int .i64 p] W fun e W' => e = .returned (.tuple #[.int .i64 (t.addN p), .int .i64 (t.addE p)]) ∧ CodeAt w W' f (t.add p) X ∧ Kept X W W' := by
  obtain ⟨S, c, h1, h2, h3, h4, h5⟩ := h
  exact (cadd_any h1 h2 p).mono fun e W' ⟨he, c', hs, hT⟩ => ⟨he, CodeAt.turn h1 h3 h4 h5 hs hT⟩
theorem CodeAt.drop (h : CodeAt w W f t X) (p : Int) : Calls Try.prog 26 #[ptr f, .int .i64 p] W fun e W' => e = .returned (.int .i64 (t.noE p)) ∧ CodeAt w W' f (t.dropI p) X ∧ Kept X W W' := by
  obtain ⟨S, c, h1, h2, h3, h4, h5⟩ := h
  exact (cdrop_any h1 h2 p).mono fun e W' ⟨he, c', hs, hT⟩ => ⟨he, CodeAt.turn h1 h3 h4 h5 hs hT⟩
theorem CodeAt.kids (h : CodeAt w W f t X) (i : Int) : Calls Try.prog 19 #[ptr f, .int .i64 i] W fun e W' => ∃ A cc, e = .returned (.slice A (t.kidsI i).length cc) ∧ Rd W' (.slice A (t.kidsI i).length cc) (iN (t.kidsI i)) ∧ CodeAt w W' f t (X ++ foot (.slice A (t.kidsI i).length cc)) ∧ Chg [] W W' := by
  obtain ⟨S, c, h1, h2, h3, h4, h5⟩ := h
  have hS := h1.lt
  exact (ckids_any h1 h2 i).mono fun e W' ⟨A, cc, he, hr, hf, hc⟩ => ⟨A, cc, he, Fresh.rd ⟨hr, hf, hc⟩, ⟨S, c, h1.quiet hc, h2, h3, h4.then hc, fun x hx => by
    rcases List.mem_append.1 hx with hx | hx
    · exact ⟨(h5 x hx).1, Nat.lt_of_lt_of_le (h5 x hx).2 hc.size⟩
    · exact ⟨fun hh => by have := hS x hh; have := hf x hx; omega, hr.lt x hx⟩⟩, hc⟩
theorem CodeAt.desc (h : CodeAt w W f t X) {i : Int} {l : List Nat} (hb : Below' t i l) : Calls Try.prog 28 #[ptr f, .int .i64 i] W fun e W' => ∃ A cc, e = .returned (.slice A l.length cc) ∧ Rd W' (.slice A l.length cc) (iN l) ∧ CodeAt w W' f t (X ++ foot (.slice A l.length cc)) ∧ Chg [] W W' := by
  obtain ⟨S, c, h1, h2, h3, h4, h5⟩ := h
  have hS := h1.lt
  exact (cdesc_any h1 h2 hb).mono fun e W' ⟨A, cc, he, hr, hf, hc⟩ => ⟨A, cc, he, Fresh.rd ⟨hr, hf, hc⟩, ⟨S, c, h1.quiet hc, h2, h3, h4.then hc, fun x hx => by
    rcases List.mem_append.1 hx with hx | hx
    · exact ⟨(h5 x hx).1, Nat.lt_of_lt_of_le (h5 x hx).2 hc.size⟩
    · exact ⟨fun hh => by have := hS x hh; have := hf x hx; omega, hr.lt x hx⟩⟩, hc⟩
end
section
variable {w : World} {h : Nat} {S : List Nat} {c : Tr} {t : Fo}
set_option maxHeartbeats 1600000 in
set_option maxRecDepth 100000 in
theorem prune_new (H : TreeAt w h S c) (hs : Sim c t) {n : Nat} (hn : t.there n = true) {l : List Nat} (hl : Pre t (t.kids n) l) :
    Calls Try.prog 16 #[ptr h, .int .i64 (n : Nat)] w fun e w' => ∃ A cc, e = .returned (.tuple #[.slice A l.length cc, .int .i64 0]) ∧ Rd w' (.slice A l.length cc) (iN l) ∧ (∀ k ∈ foot (.slice A l.length cc), w.heap.size ≤ k) ∧ ∃ c', Sim c' (t.prune n l) ∧ ∃ S', TreeAt w' h S' c' ∧ (∀ k ∈ S', k ∈ S ∨ w.heap.size ≤ k) ∧ Chg S w w' ∧ ∀ k ∈ foot (.slice A l.length cc), k ∉ S' ∧ k < w'.heap.size := by
  have HF := cfind_any H hs (n : Nat)
  unfold Fo.noE at HF
  rw [t.has_nat, if_pos hn] at HF
  have HB := Lib.hid (fun W (hc : Chg [] w W) => cbelow_any (H.quiet hc) hs hn hl)
  have hcnt := hs.count
  have hlt : ∀ x ∈ l, x < c.N.length := fun x hx => (hs.node x ((hl.desc x).1 hx |>.there hs.wf).2).1
  have hl2 : l.length ≤ 4096 := Nat.le_trans (hs.wf.pre_len hl) hs.big
  have hlN := hs.lenN
  have hSlt := H.lt
  obtain ⟨c2, hc2⟩ : ∃ c2, c2 = ({ c with N := clr c.N l, F := c.F ++ l } : Tr) := ⟨_, rfl⟩
  have HFR := Lib.hid (fun W (hc : Chg [] w W) (v : Value) (hv : Rd W v (iN l)) (hf : ∀ k ∈ foot v, w.heap.size ≤ k) => free_any (H.quiet hc) hv (fun k hk hkS => by have := hf k hk; have := hSlt k hkS; omega) hlt hlN hl2 (by omega))
  rw [← hc2] at HFR
  have HNN := Lib.hid (show n < c2.N.length by rw [hc2]; show n < (clr c.N l).length; rw [clr_len]; exact (hs.node n hn).1)
  have HSIM := Lib.hid (show Sim (c2.upd n fun d => { d with child := -1 }) (t.prune n l) by have := hs.prune hn hl; unfold Tr.prune at this; rw [← hc2] at this; exact this)
  have HSL := Lib.hid hSlt
  clear H hs hn hcnt hlt hl hSlt hc2
  go_enter Try.func16, Try.ntmps16
  go_wp2_with (first
    | (go_at_call 41; refine HF.mono ?_; rintro e w0 ⟨rfl, hc0⟩; have HC0 := Lib.hid hc0; clear hc0)
    | (go_at_call 42; refine (HB.out _ HC0.out).mono ?_; rintro e w1 ⟨A, cc, rfl, hf⟩; have HW := Lib.hid (hf.before HC0.out); clear hf)
    | (go_at_call 43; refine (HFR.out _ HW.out.2.2 _ HW.out.rd HW.out.2.1).mono ?_; rintro e w2 ⟨rfl, hT⟩; obtain ⟨S2, H2, k1', k2'⟩ := hT; have hrd := HW.out.rd.chg k2' (fun k hk hkS => by have := HW.out.2.1 k hk; have := HSL.out k hkS; omega); obtain ⟨g, cN, q2, lt, lg, i0, i1, fz, b0, b1, b2, b3, b4, hst⟩ := H2.open2 HNN.out; have hap := H2.apart q2 hrd; obtain ⟨t1, t2⟩ := hst 2 { c2.nd (n : Nat) with child := -1 } (.int .i64 (-1)) (by omega) rfl; have K1 := Lib.hid (show ∀ k ∈ S2, k ∈ S ∨ w.heap.size ≤ k from fun k hk => (k1' k hk).imp id (fun h => Nat.le_trans HW.out.2.2.size h)); have K2 := Lib.hid (show Chg S w w2 from HW.out.2.2.any.trans k2' (fun k hk => .inl hk)); have HRD := Lib.hid hrd; have HAP := Lib.hid hap; have HAW := Lib.hid (show ∀ k ∈ foot (.slice A l.length cc), k ∉ S2 ∧ k < w2.heap.size from fun k hk => ⟨fun hS => (k1' k hS).elim (fun h => by have := HW.out.2.1 k hk; have := HSL.out k h; omega) (fun h => by have := HW.out.1.lt k hk; omega), hrd.lt k hk⟩); have HT1 := Lib.hid t1; have HT2 := Lib.hid t2; clear hst t1 t2 hrd hap k1' k2' H2))
  go_ret2
  refine ⟨A, cc, rfl, HRD.out.same (fun k hk => Below.heap_setCell _ _ _ _ (fun e => HAP.out (by have : k = g := e; rw [← this]; exact hk))), HW.out.2.1, _, HSIM.out, S2, ?_, K1.out, K2.out.trans HT2.out K1.out, fun k hk => ⟨(HAW.out k hk).1, by simp [World.setCell]; exact (HAW.out k hk).2⟩⟩
  have := upd_same_nd (c := c2) (k := n) (f := fun d => { d with child := -1 }) (g := fun _ => { c2.nd (n : Nat) with child := -1 }) rfl
  rw [this]
  exact HT1.out
end
section
variable {w W : World} {f : Nat} {t : Fo} {X : List Nat}
theorem CodeAt.prune (h : CodeAt w W f t X) {n : Nat} (hn : t.there n = true) {l : List Nat} (hl : Pre t (t.kids n) l) : Calls Try.prog 16 #[ptr f, .int .i64 (n : Nat)] W fun e W' => ∃ A cc, e = .returned (.tuple #[.slice A l.length cc, .int .i64 0]) ∧ Rd W' (.slice A l.length cc) (iN l) ∧ CodeAt w W' f (t.prune n l) (X ++ foot (.slice A l.length cc)) ∧ Kept X W W' := by
  obtain ⟨S, c, h1, h2, h3, h4, h5⟩ := h
  exact (prune_new h1 h2 hn hl).mono fun e W' ⟨A, cc, he, hr, hf, c', hs, S', a, b, d, g⟩ => ⟨A, cc, he, hr, ⟨S', c', a, hs, fun k hk => (b k hk).elim (fun h => h3 k h) (fun h => Nat.le_trans h4.size h), h4.trans d (fun k hk => .inr (h3 k hk)), fun x hx => by
    rcases List.mem_append.1 hx with hx | hx
    · refine ⟨fun hS => ?_, Nat.lt_of_lt_of_le (h5 x hx).2 d.size⟩
      rcases b x hS with h | h
      · exact (h5 x hx).1 h
      · have := (h5 x hx).2; omega
    · exact g x hx⟩, fun x hx => d.block x (h5 x hx).2 (h5 x hx).1⟩
theorem ints_same' {w : World} {v1 v2 : Value} {l : List Nat} (h1 : Rd w v1 (iN l)) (h2 : Rd w v2 (iN l)) (hl : l.length ≤ 8192) : Calls Try.prog 21 #[v1, v2] w fun e w' => e = .returned (.bool true) ∧ Chg [] w w' := by
  have := rsame_any h1 h2 (by rw [iN_len]; exact hl) (by rw [iN_len]; exact hl)
  rw [beq_self_eq_true] at this
  exact this
/-- A literal slice of numbers. -/
theorem Rd.lit (w : World) (l : List Nat) (hl : l.length ≤ 100) : Rd (w.alloc (.cells (ints (iN l)).toArray 3)) (.slice (some ⟨w.heap.size, 0, none⟩) l.length l.length) (iN l) :=
  ⟨_, l.length, by rw [iN_len], by rw [iN_len]; exact Nat.le_refl _, by unfold maxLen; omega, fun h => (by cases h), fun a ha => by
    cases ha
    refine ⟨_, 0, _, rfl, Blk.new w 3 _, by simp [ints], fun j z hj => ?_⟩
    rw [Nat.zero_add, List.getElem?_toArray]
    exact ints_at hj⟩
end
/-! ### The chapter's rows, plainly -/
abbrev qa : Fo := Fo.new 5
abbrev qb : Fo := qa.add (-1)
abbrev qc : Fo := qb.add 0
abbrev qd : Fo := qc.add 0
abbrev qe : Fo := qd.add 1
abbrev qf : Fo := qe.dropI 1
abbrev qg : Fo := qf.prune 0 [2, 3]
theorem q_adds : (qa.addN (-1) = 0 ∧ qa.addE (-1) = 0) ∧ (qb.addN 0 = 1 ∧ qb.addE 0 = 0) ∧ (qc.addN 0 = 2 ∧ qc.addE 0 = 0) ∧ (qd.addN 1 = 3 ∧ qd.addE 1 = 0) := by decide
theorem q_kids : qe.kidsI 0 = [2, 1] ∧ qe.noE 1 = 0 := by decide
theorem q_below : Below' qe 0 [2, 1, 3] := by
  unfold Below'
  rw [if_pos (by decide)]
  have h0 : qe.kids (Int.toNat 0) = [2, 1] := by decide
  have h2 : qe.kids 2 = [] := by decide
  have h1 : qe.kids 1 = [3] := by decide
  have h3 : qe.kids 3 = [] := by decide
  rw [h0]
  refine .cons ?_
  rw [h2]
  refine .cons ?_
  rw [h1]
  refine .cons ?_
  rw [h3]
  exact .nil
theorem q_kids2 : qf.kidsI 0 = [2, 3] ∧ qf.there 0 = true := by decide
theorem q_below2 : Pre qf (qf.kids 0) [2, 3] := by
  have h0 : qf.kids 0 = [2, 3] := by decide
  have h2 : qf.kids 2 = [] := by decide
  have h3 : qf.kids 3 = [] := by decide
  rw [h0]
  refine .cons ?_
  rw [h2]
  refine .cons ?_
  rw [h3]
  exact .nil
theorem q_last : qg.addN (-1) = 3 ∧ qg.addE (-1) = 0 := by decide
end Go.Proofs
end
section
namespace Go.Proofs
open Go.RowKit
set_option linter.unusedVariables false
set_option linter.unusedSimpArgs false

set_option maxRecDepth 100000 in
set_option maxHeartbeats 3200000 in
/-- **known**: the chapter's rows. -/
theorem known_any (w : World) : Calls Try.prog 10 #[] w fun e w' => e = .returned (.bool true) ∧ Chg [] w w' := by
  obtain ⟨⟨a1, a2⟩, ⟨b1, b2⟩, ⟨c1, c2⟩, ⟨d1, d2⟩⟩ := q_adds
  have HN := Lib.hid (fun W (hc : Chg [] w W) => CodeAt.new (w := w) (W := W) (n := 5) (by omega) (by omega) hc)
  have HA := Lib.hid (fun W f (h : CodeAt w W f qa []) => show Calls Try.prog 27 #[ptr f, .int .i64 (-1)] W (fun e W' => e = .returned (.tuple #[.int .i64 0, .int .i64 0]) ∧ CodeAt w W' f qb []) from (h.add (-1)).mono fun e W' ⟨h1, h2, _⟩ => ⟨by rw [h1, a1, a2], h2⟩)
  have HB := Lib.hid (fun W f (h : CodeAt w W f qb []) => show Calls Try.prog 27 #[ptr f, .int .i64 0] W (fun e W' => e = .returned (.tuple #[.int .i64 1, .int .i64 0]) ∧ CodeAt w W' f qc []) from (h.add 0).mono fun e W' ⟨h1, h2, _⟩ => ⟨by rw [h1, b1, b2], h2⟩)
  have HC := Lib.hid (fun W f (h : CodeAt w W f qc []) => show Calls Try.prog 27 #[ptr f, .int .i64 0] W (fun e W' => e = .returned (.tuple #[.int .i64 2, .int .i64 0]) ∧ CodeAt w W' f qd []) from (h.add 0).mono fun e W' ⟨h1, h2, _⟩ => ⟨by rw [h1, c1, c2], h2⟩)
  have HD := Lib.hid (fun W f (h : CodeAt w W f qd []) => show Calls Try.prog 27 #[ptr f, .int .i64 1] W (fun e W' => e = .returned (.tuple #[.int .i64 3, .int .i64 0]) ∧ CodeAt w W' f qe []) from (h.add 1).mono fun e W' ⟨h1, h2, _⟩ => ⟨by rw [h1, d1, d2], h2⟩)
  have HK := Lib.hid (fun W f (h : CodeAt w W f qe []) => show Calls Try.prog 19 #[ptr f, .int .i64 0] W (fun e W' => ∃ A cc, e = .returned (.slice A 2 cc) ∧ Rd W' (.slice A 2 cc) (iN [2, 1]) ∧ CodeAt w W' f qe []) from by
    have hh := h.kids 0
    rw [q_kids.1] at hh
    exact hh.mono fun e W' ⟨A, cc, h1, h2, h3, h4⟩ => ⟨A, cc, h1, h2, h.quiet h4⟩)
  have HE := Lib.hid (fun W f (h : CodeAt w W f qe []) => show Calls Try.prog 28 #[ptr f, .int .i64 0] W (fun e W' => ∃ A cc, e = .returned (.slice A 3 cc) ∧ Rd W' (.slice A 3 cc) (iN [2, 1, 3]) ∧ CodeAt w W' f qe []) from (h.desc q_below).mono fun e W' ⟨A, cc, h1, h2, h3, h4⟩ => ⟨A, cc, h1, h2, h.quiet h4⟩)
  have HDR := Lib.hid (fun W f (h : CodeAt w W f qe []) => show Calls Try.prog 26 #[ptr f, .int .i64 1] W (fun e W' => e = .returned (.int .i64 0) ∧ CodeAt w W' f qf []) from (h.drop 1).mono fun e W' ⟨h1, h2, _⟩ => ⟨by rw [h1, q_kids.2], h2⟩)
  have HX := Lib.hid (fun W f (h : CodeAt w W f qf []) => show Calls Try.prog 19 #[ptr f, .int .i64 0] W (fun e W' => ∃ A cc, e = .returned (.slice A 2 cc) ∧ Rd W' (.slice A 2 cc) (iN [2, 3]) ∧ CodeAt w W' f qf (foot (.slice A 2 cc))) from by
    have hh := h.kids 0
    rw [q_kids2.1] at hh
    exact hh.mono fun e W' ⟨A, cc, h1, h2, h3, h4⟩ => ⟨A, cc, h1, h2, h3⟩)
  have HP := Lib.hid (fun W f X (h : CodeAt w W f qf X) => show Calls Try.prog 16 #[ptr f, .int .i64 0] W (fun e W' => ∃ A cc, e = .returned (.tuple #[.slice A 2 cc, .int .i64 0]) ∧ Rd W' (.slice A 2 cc) (iN [2, 3]) ∧ CodeAt w W' f qg (X ++ foot (.slice A 2 cc)) ∧ Kept X W W') from h.prune q_kids2.2 q_below2)
  have HZ := Lib.hid (fun W f X (h : CodeAt w W f qg X) => show Calls Try.prog 27 #[ptr f, .int .i64 (-1)] W (fun e W' => e = .returned (.tuple #[.int .i64 3, .int .i64 0]) ∧ (∃ t', CodeAt w W' f t' X) ∧ Kept X W W') from (h.add (-1)).mono fun e W' ⟨h1, h2, h3⟩ => ⟨by rw [h1, q_last.1, q_last.2], ⟨_, h2⟩, h3⟩)
  have HI := Lib.hid (fun W v1 v2 (l : List Nat) (h1 : Rd W v1 (iN l)) (h2 : Rd W v2 (iN l)) (hl : l.length ≤ 8192) => ints_same' h1 h2 hl)
  clear a1 a2 b1 b2 c1 c2 d1 d2
  go_enter Try.func10, Try.ntmps10
  go_wp2_with (first
    | (go_at_call 11; refine (HN.out w (Chg.refl _ _)).mono ?_; rintro e w1 ⟨f, rfl, h⟩; have HF := Lib.hid h; clear h))
  refine (HA.out _ _ HF.out).mono ?_
  rintro e w2 ⟨rfl, h⟩
  have HF2 := Lib.hid h
  clear h HF
  go_wp2_with (fail)
  refine (HB.out _ _ HF2.out).mono ?_
  rintro e w3 ⟨rfl, h⟩
  have HF3 := Lib.hid h
  clear h HF2
  go_wp2_with (fail)
  refine (HC.out _ _ HF3.out).mono ?_
  rintro e w4 ⟨rfl, h⟩
  have HF4 := Lib.hid h
  clear h HF3
  go_wp2_with (fail)
  refine (HD.out _ _ HF4.out).mono ?_
  rintro e w5 ⟨rfl, h⟩
  have HF5 := Lib.hid h
  clear h HF4
  go_wp2_with (fail)
  refine (HK.out _ _ HF5.out).mono ?_
  rintro e w6 ⟨A6, c6, rfl, hr, h⟩
  have HR6 := Lib.hid hr
  have HF6 := Lib.hid h
  clear h hr HF5
  go_wp2_with (fail)
  refine (HI.out (w6.alloc (.cells #[.int .i64 2, .int .i64 1] 3)) (.slice A6 2 c6) (.slice (some ⟨w6.heap.size, 0, none⟩) 2 2) [2, 1] (HR6.out.quiet ((Chg.refl _ _).alloc _)) (Rd.lit w6 [2, 1] (by simp)) (by simp)).mono ?_
  rintro e w7 ⟨rfl, hc⟩
  have HF7 := Lib.hid (HF6.out.quiet (((Chg.refl [] w6).alloc (.cells #[.int .i64 2, .int .i64 1] 3)).then hc))
  clear hc HR6 HF6
  go_wp2_with (fail)
  refine (HE.out _ _ HF7.out).mono ?_
  rintro e w8 ⟨A8, c8, rfl, hr, h⟩
  have HR8 := Lib.hid hr
  have HF8 := Lib.hid h
  clear h hr HF7
  go_wp2_with (fail)
  refine (HI.out (w8.alloc (.cells #[.int .i64 2, .int .i64 1, .int .i64 3] 3)) (.slice A8 3 c8) (.slice (some ⟨w8.heap.size, 0, none⟩) 3 3) [2, 1, 3] (HR8.out.quiet ((Chg.refl _ _).alloc _)) (Rd.lit w8 [2, 1, 3] (by simp)) (by simp)).mono ?_
  rintro e w9 ⟨rfl, hc⟩
  have HF9 := Lib.hid (HF8.out.quiet (((Chg.refl [] w8).alloc (.cells #[.int .i64 2, .int .i64 1, .int .i64 3] 3)).then hc))
  clear hc HR8 HF8
  go_wp2_with (fail)
  refine (HDR.out _ _ HF9.out).mono ?_
  rintro e w10 ⟨rfl, h⟩
  have HF10 := Lib.hid h
  clear h HF9
  go_wp2_with (fail)
  refine (HX.out _ _ HF10.out).mono ?_
  rintro e w11 ⟨A11, c11, rfl, hr, h⟩
  have HR11 := Lib.hid hr
  have HF11 := Lib.hid h
  clear h hr HF10
  go_wp2_with (fail)
  refine (HP.out _ _ _ HF11.out).mono ?_
  rintro e w12 ⟨A12, c12, rfl, hr, h, hk⟩
  have HR11b := Lib.hid (HR11.out.kept hk (fun k hk => hk))
  have HR12 := Lib.hid hr
  have HF12 := Lib.hid h
  clear h hr hk HF11 HR11
  go_wp2_with (fail)
  refine (HZ.out _ _ _ HF12.out).mono ?_
  rintro e w13 ⟨rfl, ⟨t', h⟩, hk⟩
  have HR11 := Lib.hid (HR11b.out.kept hk (fun k hk => by simp [hk]))
  have HR13 := Lib.hid (HR12.out.kept hk (fun k hk => by simp [hk]))
  have HC13 := Lib.hid h.chg0
  clear h hk HF12 HR12 HR11b
  go_wp2_with (fail)
  refine (HI.out (w13.alloc (.cells #[.int .i64 2, .int .i64 3] 3)) (.slice A11 2 c11) (.slice (some ⟨w13.heap.size, 0, none⟩) 2 2) [2, 3] (HR11.out.quiet ((Chg.refl _ _).alloc _)) (Rd.lit w13 [2, 3] (by simp)) (by simp)).mono ?_
  rintro e w14 ⟨rfl, hc⟩
  have HC14 := Lib.hid (((Chg.refl [] w13).alloc (.cells #[.int .i64 2, .int .i64 3] 3)).then hc)
  clear hc
  go_wp2_with (fail)
  refine (HI.out (w14.alloc (.cells #[.int .i64 2, .int .i64 3] 3)) (.slice A12 2 c12) (.slice (some ⟨w14.heap.size, 0, none⟩) 2 2) [2, 3] (HR13.out.quiet (HC14.out.alloc _)) (Rd.lit w14 [2, 3] (by simp)) (by simp)).mono ?_
  rintro e w15 ⟨rfl, hc⟩
  have HC15 := Lib.hid (HC13.out.then ((HC14.out.alloc (.cells #[.int .i64 2, .int .i64 3] 3)).then hc))
  clear hc
  go_wp2
  go_ret
  exact ⟨rfl, HC15.out⟩
end Go.Proofs
end
