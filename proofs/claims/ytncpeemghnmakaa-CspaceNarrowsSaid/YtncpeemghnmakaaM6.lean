import Derived.Test.YtncpeemghnmakaaM5
import Derived.Maps.OwnSet
import Derived.Maps.OwnOps
import Derived.DeepKeys4
import Derived.Laws.BitsAllLaws
import Derived.Laws.BitsLemmas
section
namespace Go.Proofs
open Go.RowKit
set_option linter.unusedVariables false
set_option linter.unusedSimpArgs false

/-! ### Places, and the map by which one knows what is there -/
def I64 (x : Int) : Prop := -9223372036854775808 ≤ x ∧ x ≤ 9223372036854775807
theorem I64.wf {x : Int} (h : I64 x) : (Lit.int .i64 x).wf = true := WalkArith.wf_i64 ⟨h.1, h.2⟩
theorem I64.nat {k : Nat} (h : k ≤ 1000000) : I64 (k : Int) := ⟨by omega, by omega⟩
/-- A goroutine, and a slot of its table. -/
structure Pt where
  g : Int
  s : Int
  deriving DecidableEq
abbrev Pt.val (p : Pt) : Value := .agg #[.int .i64 p.g, .int .i64 p.s]
def Pt.ok (p : Pt) : Prop := I64 p.g ∧ I64 p.s
theorem Try.laidOut : laidOutB Try.prog = true := by kernel_rfl
theorem law94 : Maps.Keyed Try.prog 94 := Maps.Keyed.of_law (deep_law_laid (m := 2) Try.laidOut (by decide) (of_decide_eq_true (by kernel_rfl)) (by kernel_rfl) (by kernel_rfl))
theorem zero3 (w : World) : (zeroValue 3).run Try.prog w = .ok (.int .i64 0) w := Try.zeroValue3 w
theorem keyType94 : Try.prog.keyType 94 = true := by kernel_rfl
theorem formed94 (a b : Int) : (Pt.val ⟨a, b⟩).formed Try.prog 94 = true := by kernel_rfl
theorem cellsOf94 : Try.prog.cellsOf 94 = 2 := by kernel_rfl
theorem cellsOf3 : Try.prog.cellsOf 3 = 1 := by kernel_rfl
theorem typesSize : ∃ n, Try.prog.types.size + 1 = n + 2 := by
  have h : decide (1 ≤ Try.prog.types.size) = true := by kernel_rfl
  have := of_decide_eq_true h
  exact ⟨Try.prog.types.size - 1, by omega⟩
theorem key_is {p : Pt} (h : p.ok) : ∃ l, keyOf Try.prog 94 p.val = some l := by
  obtain ⟨n, hn⟩ := typesSize
  obtain ⟨a, b⟩ := p
  obtain ⟨h1, h2⟩ := h
  unfold keyOf
  rw [Try.underlying94]
  simp only [keyType94, formed94, Bool.and_self, if_true, hn]
  simp only [Program.keyLits, Try.underlying94, Try.underlying3, cellsOf94, cellsOf3]
  have w1 := h1.wf
  have w2 := h2.wf
  simp only at w1 w2
  simp [Value.cells, List.range_succ, w1, w2]
/-- What a place reads as. -/
noncomputable def kl (p : Pt) : Lit := (keyOf Try.prog 94 p.val).getD (.bool false)
theorem key_of {p : Pt} (h : p.ok) : keyOf Try.prog 94 p.val = some (kl p) := by
  obtain ⟨l, hl⟩ := key_is h
  unfold kl
  rw [hl]
  rfl
theorem kl_key' {v : Value} {l : Lit} (h : keyOf Try.prog 94 v = some l) : WideAt.IsKeyLit l := law94.key h
theorem kl_has {p : Pt} (h : p.ok) {D : DataW Unit} (hD : Maps.Tidy D) (d : DataW Unit) : Maps.has (D.put (kl p) d) (kl p) = true := by
  have h1 := key_of h
  generalize kl p = l at h1 ⊢
  exact Maps.has_put_same hD.isMap (kl_key' h1) d
theorem kl_at {p : Pt} (h : p.ok) {D : DataW Unit} (hD : Maps.Tidy D) (d z : DataW Unit) : (D.put (kl p) d).atKey (kl p) z = d := by
  have h1 := key_of h
  generalize kl p = l at h1 ⊢
  exact Maps.atKey_put_same hD.isMap (kl_key' h1) d z
theorem kl_inj {p q : Pt} (hp : p.ok) (hq : q.ok) (h : kl p = kl q) : p = q := by
  have h1 := key_of hp
  rw [h] at h1
  have := law94.inj h1 (key_of hq)
  obtain ⟨a, b⟩ := p
  obtain ⟨c, d⟩ := q
  simp [Pt.val] at this
  obtain ⟨rfl, rfl⟩ := this
  rfl
/-- The map reads as f. -/
def Plc (D : DataW Unit) (f : Pt → Option Nat) : Prop :=
  ∀ p, p.ok → Maps.has D (kl p) = (f p).isSome ∧ ∀ i : Nat, f p = some i → ∀ z, D.atKey (kl p) z = .lit (.int .i64 i)
/-- The map at block b holds just the places f, of at most m things. -/
def Mp (w : World) (b m : Nat) (f : Pt → Option Nat) : Prop :=
  ∃ D : DataW Unit, w.ownsMap Try.prog 94 (plainElem Try.prog 3) b (Maps.size D) D ∧ Maps.size D = m ∧ Plc D f
def set' (f : Pt → Option Nat) (p : Pt) (i : Nat) : Pt → Option Nat := fun x => if x = p then some i else f x
def del (f : Pt → Option Nat) (p : Pt) : Pt → Option Nat := fun x => if x = p then none else f x
theorem owns_tight {w : World} {b n : Nat} {D : DataW Unit} (h : w.ownsMap Try.prog 94 (plainElem Try.prog 3) b n D) : w.ownsMap Try.prog 94 (plainElem Try.prog 3) b (Maps.size D) D := by
  obtain ⟨es, clock, hb, F, hs, rfl⟩ := h
  exact ⟨es, clock, hb, F, by rw [Maps.size_eq, length_read]; exact Nat.le_refl _, rfl⟩
section
variable {w w' : World} {b m : Nat} {f : Pt → Option Nat}
theorem Mp.lt (h : Mp w b m f) : b < w.heap.size := by obtain ⟨D, h1, _⟩ := h; exact h1.lt
theorem Mp.same (h : Mp w b m f) (e : w'.heap[b]? = w.heap[b]?) : Mp w' b m f := by
  obtain ⟨D, ⟨es, clock, hb, r⟩, h2⟩ := h
  exact ⟨D, ⟨es, clock, e.trans hb, r⟩, h2⟩
theorem Mp.chg {S : List Nat} (h : Mp w b m f) (hc : Chg S w w') (hn : b ∉ S) : Mp w' b m f := h.same (hc.block b h.lt hn)
theorem Blk.quiet {w w' : World} {g : Nat} {t : TypeId} {cs : Array Value} (h : Blk w g t cs) (hc : Chg [] w w') : Blk w' g t cs := h.chg hc (by simp)
theorem Mp.quiet (h : Mp w b m f) (hc : Chg [] w w') : Mp w' b m f := h.chg hc (by simp)
theorem Mp.far {g : Nat} {t : TypeId} {cs : Array Value} (h : Mp w b m f) (hg : Blk w g t cs) : b ≠ g := by
  rintro rfl
  obtain ⟨D, ⟨es, clock, hb, r⟩, h2⟩ := h
  unfold Blk at hg
  rw [hg] at hb
  cases hb
theorem Mp.row {e : TypeId} {size n : Nat} {v : Value} {xs : List Value} (h : Mp w b m f) (hr : Row w e size v n xs) : b ∉ foot v := by
  intro hk
  rcases hr.2 with ⟨rfl, _⟩ | ⟨g', cap, cur, rfl, hg', _⟩
  · cases hk
  · simp [foot_some] at hk
    exact h.far hg' hk
theorem Mp.made (w : World) : Mp (w.alloc (.map #[] 0)) w.heap.size 0 (fun _ => none) :=
  ⟨.map [], World.ownsMap_made _ _ _ _, rfl, fun p _ => ⟨rfl, fun i h => by cases h⟩⟩
theorem Mp.lit {D : DataW Unit} (h3 : Plc D f) {p : Pt} (hp : p.ok) : D.atKey (kl p) (.lit (.int .i64 0)) = .lit (.int .i64 (((f p).getD 0 : Nat) : Int)) := by
  obtain ⟨q1, q2⟩ := h3 p hp
  cases hf : f p with
  | none => rw [hf] at q1; exact Maps.atKey_of_not_has q1 _
  | some i => exact q2 i hf _
theorem Mp.look_ok (h : Mp w b m f) {p : Pt} (hp : p.ok) : (Instr.lookup 70 (.map (some b)) p.val true).run Try.prog w = .ok (.tuple #[.int .i64 (((f p).getD 0 : Nat) : Int), .bool (f p).isSome]) w := by
  obtain ⟨D, h1, h2, h3⟩ := h
  obtain ⟨v, ps, hr, hv⟩ := h1.look_ok law94 Try.underlying70 (zero3 w) (plainElem_int Try.underlying3 (by decide)) (key_of hp)
  obtain ⟨c, rfl, hc, _⟩ := plainElem_int_inv Try.underlying3 hv
  rw [Mp.lit h3 hp] at hc
  simp only [Prod.mk.injEq, DataW.lit.injEq, Lit.int.injEq, true_and] at hc
  rw [(h3 p hp).1, ← hc.1] at hr
  exact hr
theorem Mp.look (h : Mp w b m f) {p : Pt} (hp : p.ok) : (Instr.lookup 70 (.map (some b)) p.val false).run Try.prog w = .ok (.int .i64 (((f p).getD 0 : Nat) : Int)) w := by
  obtain ⟨D, h1, h2, h3⟩ := h
  obtain ⟨c, hr, hc, _⟩ := h1.lookup_int law94 Try.underlying70 Try.underlying3 (zero3 w) (key_of hp)
  rw [Mp.lit h3 hp] at hc
  simp only [DataW.lit.injEq, Lit.int.injEq, true_and] at hc
  rw [hc]
  exact hr
/-- 'm[k] = v' -/
theorem Mp.store (h : Mp w b m f) (hm : m ≤ 1000000) {p : Pt} (hp : p.ok) {i : Nat} (hk : i ≤ 1000000) : ∃ w', (Instr.mapUpdate 70 (.map (some b)) p.val (.int .i64 i)).run Try.prog w = .ok () w' ∧ w.grownBy w' (some b) ∧
    Mp w' b (m + if (f p).isSome then 0 else 1) (set' f p i) ∧ w'.heap.size = w.heap.size := by
  obtain ⟨D, h1, h2, h3⟩ := h
  obtain ⟨w', hr, ho, ht⟩ := h1.store law94 Try.underlying70 (by unfold maxLen; omega) (key_of hp) (plainElem_int Try.underlying3 (I64.nat hk).wf)
  refine ⟨w', hr, ht.grown, ⟨_, owns_tight ho, ?_, ?_⟩, ?_⟩
  · rw [Maps.size_put (h1.tidy law94), (h3 p hp).1]
    cases f p with
    | none => rw [if_neg (by simp), if_neg (by simp)]; omega
    | some i => rw [if_pos (by simp), if_pos (by simp)]; omega
  · intro x hx
    unfold set'
    by_cases e : x = p
    · subst e
      rw [if_pos rfl]
      refine ⟨kl_has hp (h1.tidy law94) _, fun j hj z => ?_⟩
      cases hj
      exact kl_at hp (h1.tidy law94) _ _
    · have e' : kl x ≠ kl p := fun he => e (kl_inj hx hp he)
      rw [if_neg e, Maps.has_put_other e']
      refine ⟨(h3 x hx).1, fun j hj z => ?_⟩
      rw [Maps.atKey_put_other e']
      exact (h3 x hx).2 j hj z
  · obtain ⟨es, clock, es', clock', hb, rfl⟩ := ht
    simp [ChangeMaps.setBlock]
theorem Mp.drop (h : Mp w b m f) {p : Pt} (hp : p.ok) (ty : TypeId) : ∃ w', (Builtin.delete_ #[70, 94] ty #[.map (some b), p.val]).run Try.prog w = .ok (.tuple #[]) w' ∧ w.grownBy w' (some b) ∧ Mp w' b (m - if (f p).isSome then 1 else 0) (del f p) ∧ w'.heap.size = w.heap.size := by
  obtain ⟨D, h1, h2, h3⟩ := h
  obtain ⟨w', hr, ho, ht⟩ := h1.drop law94 Try.underlying70 (key_of hp) ty
  refine ⟨w', hr, ht.grown, ⟨_, owns_tight ho, ?_, ?_⟩, ?_⟩
  · have := Maps.size_del (k := kl p) (h1.tidy law94)
    rw [(h3 p hp).1] at this
    omega
  · intro x hx
    unfold del
    by_cases e : x = p
    · subst e
      rw [if_pos rfl]
      exact ⟨Maps.has_del_same, fun j hj => by cases hj⟩
    · have e' : kl x ≠ kl p := fun he => e (kl_inj hx hp he)
      rw [if_neg e, Maps.has_del_other e']
      refine ⟨(h3 x hx).1, fun j hj z => ?_⟩
      rw [Maps.atKey_del_other e']
      exact (h3 x hx).2 j hj z
  · obtain ⟨es, clock, es', clock', hb, rfl⟩ := ht
    simp [ChangeMaps.setBlock]
end
end Go.Proofs
end
section
namespace Go.Proofs
open Go.RowKit
set_option linter.unusedVariables false
set_option linter.unusedSimpArgs false

/-! ### Capabilities, what is held, a space in memory -/
structure Cp where
  kind : Int
  idx : Int
  gen : Int
  rts : Nat
  deriving DecidableEq
structure Hd where
  p : Pt
  cap : Cp
  deriving DecidableEq
def Cp.ok (c : Cp) : Prop := I64 c.kind ∧ I64 c.idx ∧ 0 ≤ c.gen ∧ c.gen ≤ 18446744073709551615 ∧ c.rts < 256
def cp0 : Cp := ⟨0, 0, 0, 0⟩
def hd0 : Hd := ⟨⟨0, 0⟩, cp0⟩
abbrev Cp.arr (c : Cp) : Array Value := #[.int .i64 c.kind, .int .i64 c.idx, .int .u64 c.gen, .int .u8 c.rts]
abbrev Cp.val (c : Cp) : Value := .agg c.arr
def Hd.cells (h : Hd) : List Value := [.int .i64 h.p.g, .int .i64 h.p.s, .int .i64 h.cap.kind, .int .i64 h.cap.idx, .int .u64 h.cap.gen, .int .u8 h.cap.rts]
abbrev Hd.val (h : Hd) : Value := .agg #[.int .i64 h.p.g, .int .i64 h.p.s, .int .i64 h.cap.kind, .int .i64 h.cap.idx, .int .u64 h.cap.gen, .int .u8 h.cap.rts]
def hdCells (l : List Hd) : List Value := l.flatMap Hd.cells
theorem hdCells_len (l : List Hd) : (hdCells l).length = l.length * 6 := flat_len (enc := Hd.cells) (s := 6) (fun _ => rfl) l
theorem hdCells_at (l : List Hd) (k : Nat) (d : Hd) (h : l[k]? = some d) : (hdCells l)[k * 6]? = some (.int .i64 d.p.g) ∧ (hdCells l)[k * 6 + 1]? = some (.int .i64 d.p.s) ∧ (hdCells l)[k * 6 + 2]? = some (.int .i64 d.cap.kind) ∧ (hdCells l)[k * 6 + 3]? = some (.int .i64 d.cap.idx) ∧ (hdCells l)[k * 6 + 4]? = some (.int .u64 d.cap.gen) ∧ (hdCells l)[k * 6 + 5]? = some (.int .u8 d.cap.rts) := by
  have e := fun j u => flat_at (enc := Hd.cells) (s := 6) (fun _ => rfl) (j := j) (u := u) h
  exact ⟨e 0 _ rfl, e 1 _ rfl, e 2 _ rfl, e 3 _ rfl, e 4 _ rfl, e 5 _ rfl⟩
abbrev put6 (w : World) (g o : Nat) (d : Hd) : World := (((((w.setCell ⟨g, o, none⟩ (.int .i64 d.p.g)).setCell ⟨g, o + 1, none⟩ (.int .i64 d.p.s)).setCell ⟨g, o + 2, none⟩ (.int .i64 d.cap.kind)).setCell ⟨g, o + 3, none⟩ (.int .i64 d.cap.idx)).setCell ⟨g, o + 4, none⟩ (.int .u64 d.cap.gen)).setCell ⟨g, o + 5, none⟩ (.int .u8 d.cap.rts)
theorem chg_put6 {S : List Nat} {a w : World} {g : Nat} (h : Chg S a w) (hg : g ∈ S ∨ a.heap.size ≤ g) (o : Nat) (d : Hd) : Chg S a (put6 w g o d) :=
  (((((h.setCell (p := ⟨g, o, none⟩) hg _).setCell (p := ⟨g, o + 1, none⟩) hg _).setCell (p := ⟨g, o + 2, none⟩) hg _).setCell (p := ⟨g, o + 3, none⟩) hg _).setCell (p := ⟨g, o + 4, none⟩) hg _).setCell (p := ⟨g, o + 5, none⟩) hg _
theorem hd_put {l : List Hd} {k : Nat} (d : Hd) : k < l.length → hdCells (l.set k d) = ((((((hdCells l).set (k * 6) (.int .i64 d.p.g)).set (k * 6 + 1) (.int .i64 d.p.s)).set (k * 6 + 2) (.int .i64 d.cap.kind)).set (k * 6 + 3) (.int .i64 d.cap.idx)).set (k * 6 + 4) (.int .u64 d.cap.gen)).set (k * 6 + 5) (.int .u8 d.cap.rts) := by
  induction l generalizing k with
  | nil => intro h; simp at h
  | cons a l ih =>
    intro h
    cases k with
    | zero => simp [hdCells, Hd.cells]
    | succ k =>
      have := ih (k := k) (by simpa using h)
      unfold hdCells at this ⊢
      rw [List.set_cons_succ, List.flatMap_cons, List.flatMap_cons, this]
      have e : ∀ (m : List Value) (j : Nat) (u : Value), (Hd.cells a ++ m).set ((k + 1) * 6 + j) u = Hd.cells a ++ m.set (k * 6 + j) u := fun m j u => by
        rw [List.set_append_right _ _ (by simp [Hd.cells]; omega)]
        simp [Hd.cells]; congr 1; omega
      have e0 := fun m u => e m 0 u
      simp only [Nat.add_zero] at e0
      rw [e0, e, e, e, e, e]
theorem Row.put6_ {w : World} {e : TypeId} {n g cap : Nat} {l : List Hd} (h : Row w e 6 (.slice (some ⟨g, 0, none⟩) n cap) n (hdCells l)) {k : Nat} (hk : k < n) (hl : l.length = n) (d : Hd) :
    Row (put6 w g (k * 6) d) e 6 (.slice (some ⟨g, 0, none⟩) n cap) n (hdCells (l.set k d)) := by
  rw [hd_put d (by omega)]
  exact (((((h.set_ (j := k * 6) (by omega) _).set_ (j := k * 6 + 1) (by omega) _).set_ (j := k * 6 + 2) (by omega) _).set_ (j := k * 6 + 3) (by omega) _).set_ (j := k * 6 + 4) (by omega) _).set_ (j := k * 6 + 5) (by omega) _

/-- A space's parts in memory: its own block a; its tree c; its map f of m things; what is held. S are its blocks. -/
def Raw (w : World) (a : Nat) (S : List Nat) (gs slots : Nat) (c : Tr) (m : Nat) (f : Pt → Option Nat) (H : List Hd) : Prop :=
  ∃ ht St bm VH, Blk w a 73 #[.int .i64 gs, .int .i64 slots, ptr ht, .map (some bm), VH] ∧ TreeAt w ht St c ∧ Mp w bm m f ∧ Row w 96 6 VH H.length (hdCells H) ∧ S = a :: bm :: (St ++ foot VH)
section
variable {w w' : World} {a gs slots m : Nat} {S : List Nat} {c : Tr} {f : Pt → Option Nat} {H : List Hd}
theorem TreeAt.blk {w : World} {h : Nat} {S : List Nat} {c : Tr} (H : TreeAt w h S c) : ∀ k ∈ S, (∃ cs, Blk w k 119 cs) ∨ (∃ cs, Blk w k 124 cs) ∨ (∃ cs, Blk w k 3 cs) := by
  obtain ⟨VN, VF, hB, hN, hF, rfl⟩ := H
  have row : ∀ {e : TypeId} {s n : Nat} {v : Value} {xs : List Value}, Row w e s v n xs → ∀ k ∈ foot v, ∃ cs, Blk w k e cs := by
    intro e s n v xs hr k hk
    rcases hr.2 with ⟨rfl, _⟩ | ⟨g, cap, cur, rfl, hg, _⟩
    · cases hk
    · simp [foot_some] at hk; subst hk; exact ⟨_, hg⟩
  intro k hk
  simp only [List.mem_cons, List.mem_append] at hk
  rcases hk with rfl | hk | hk
  · exact .inl ⟨_, hB⟩
  · exact .inr (.inl (row hN k hk))
  · exact .inr (.inr (row hF k hk))
/-- No block of a tree is of another type than its three. -/
theorem TreeAt.other {w : World} {h : Nat} {S : List Nat} {c : Tr} (H : TreeAt w h S c) {g : Nat} {t : TypeId} {cs : Array Value} (hg : Blk w g t cs) (h1 : t ≠ 119) (h2 : t ≠ 124) (h3 : t ≠ 3) : g ∉ S := by
  intro hk
  rcases H.blk g hk with ⟨cs', hb⟩ | ⟨cs', hb⟩ | ⟨cs', hb⟩
  · exact Blk.ty hg hb h1 rfl
  · exact Blk.ty hg hb h2 rfl
  · exact Blk.ty hg hb h3 rfl
theorem TreeAt.nomap {w : World} {h : Nat} {S : List Nat} {c : Tr} (H : TreeAt w h S c) {b m : Nat} {f : Pt → Option Nat} (hg : Mp w b m f) : b ∉ S := by
  intro hk
  rcases H.blk b hk with ⟨cs', hb⟩ | ⟨cs', hb⟩ | ⟨cs', hb⟩ <;> exact hg.far hb rfl
theorem Row.other {e : TypeId} {s n : Nat} {v : Value} {xs : List Value} (hr : Row w e s v n xs) {h : Nat} {St : List Nat} {c : Tr} (H : TreeAt w h St c) (h1 : e ≠ 119) (h2 : e ≠ 124) (h3 : e ≠ 3) : ∀ k ∈ foot v, k ∉ St := by
  intro k hk
  rcases hr.2 with ⟨rfl, _⟩ | ⟨g, cap, cur, rfl, hg, _⟩
  · cases hk
  · simp [foot_some] at hk; subst hk; exact H.other hg h1 h2 h3
theorem Raw.lt (h : Raw w a S gs slots c m f H) : ∀ k ∈ S, k < w.heap.size := by
  obtain ⟨ht, St, bm, VH, hB, hT, hM, hR, rfl⟩ := h
  intro k hk
  simp only [List.mem_cons, List.mem_append] at hk
  rcases hk with rfl | rfl | hk | hk
  · exact hB.lt
  · exact hM.lt
  · exact hT.lt k hk
  · exact hR.lt k hk
theorem Raw.chg {S' : List Nat} (h : Raw w a S gs slots c m f H) (hc : Chg S' w w') (hn : ∀ k ∈ S, k ∉ S') : Raw w' a S gs slots c m f H := by
  obtain ⟨ht, St, bm, VH, hB, hT, hM, hR, rfl⟩ := h
  exact ⟨ht, St, bm, VH, hB.chg hc (hn a (by simp)), hT.chg hc (fun k hk => hn k (by simp [hk])), hM.chg hc (hn bm (by simp)), hR.chg hc (fun k hk => hn k (by simp [hk])), rfl⟩
theorem Raw.quiet (h : Raw w a S gs slots c m f H) (hc : Chg [] w w') : Raw w' a S gs slots c m f H := h.chg hc (fun _ _ hk => by cases hk)
/-- What there is of a space, in every world in which nothing turned. -/
theorem Raw.head (h : Raw w a S gs slots c m f H) : ∃ ht St bm A cH, H.length ≤ cH ∧ (∀ W, Chg [] w W →
      W.cell? ⟨a, 0, none⟩ = some (.int .i64 gs) ∧ W.cell? ⟨a, 1, none⟩ = some (.int .i64 slots) ∧ W.cell? ⟨a, 2, none⟩ = some (ptr ht) ∧ W.cell? ⟨a, 3, none⟩ = some (.map (some bm)) ∧ W.cell? ⟨a, 4, none⟩ = some (.slice A H.length cH) ∧ a < W.heap.size ∧ (∀ j, W.frozen? ⟨a, j, none⟩ = false) ∧
      TreeAt W ht St c ∧ Mp W bm m f) ∧
    (∀ (k : Nat) (d : Hd), H[k]? = some d → ∃ g, A = some ⟨g, 0, none⟩ ∧ g ≠ a ∧ g ≠ bm ∧ g ∉ St ∧ g ∈ S ∧ ∀ W, Chg [] w W → g < W.heap.size ∧ (∀ j, W.frozen? ⟨g, j, none⟩ = false) ∧ W.cell? ⟨g, k * 6, none⟩ = some (.int .i64 d.p.g) ∧ W.cell? ⟨g, k * 6 + 1, none⟩ = some (.int .i64 d.p.s) ∧ W.cell? ⟨g, k * 6 + 2, none⟩ = some (.int .i64 d.cap.kind) ∧ W.cell? ⟨g, k * 6 + 3, none⟩ = some (.int .i64 d.cap.idx) ∧ W.cell? ⟨g, k * 6 + 4, none⟩ = some (.int .u64 d.cap.gen) ∧ W.cell? ⟨g, k * 6 + 5, none⟩ = some (.int .u8 d.cap.rts)) ∧
    a ∈ S ∧ bm ∈ S ∧ (∀ k ∈ St, k ∈ S) ∧ a ≠ bm ∧ a ∉ St ∧ bm ∉ St := by
  obtain ⟨ht, St, bm, VH, hB, hT, hM, hR, rfl⟩ := h
  have hlen : ∃ A c', VH = .slice A H.length c' ∧ H.length ≤ c' := by
    rcases hR.2 with ⟨rfl, h0⟩ | ⟨g, cap, cur, rfl, _, hc, _⟩
    · exact ⟨_, _, by rw [h0], by omega⟩
    · exact ⟨_, _, rfl, hc⟩
  obtain ⟨A, cH, rfl, hle⟩ := hlen
  refine ⟨ht, St, bm, A, cH, hle, fun W hc => ?_, fun k d hk => ?_, by simp, by simp, fun k hk => by simp [hk], (hM.far hB).symm, hT.other hB (by decide) (by decide) (by decide), hT.nomap hM⟩
  · have hb := hB.quiet hc
    exact ⟨hb.cell 0, hb.cell 1, hb.cell 2, hb.cell 3, hb.cell 4, hb.lt, hb.frozen, hT.quiet hc, hM.quiet hc⟩
  · obtain ⟨g, cap, hv, hf, _, hcell, hfz, hlt⟩ := hR.form (by have := (List.getElem?_eq_some_iff.1 hk).1; omega)
    injection hv with hv1 hv2 hv3
    subst hv1
    have hne : g ≠ a := fun e => by have := hR.ty hB (by decide); exact this (by simp [foot_some, e])
    have hnb : g ≠ bm := fun e => hM.row hR (by simp [foot_some, e])
    have hnt : g ∉ St := hR.other hT (by decide) (by decide) (by decide) g (by simp [foot_some])
    refine ⟨g, rfl, hne, hnb, hnt, by simp [foot_some], fun W hc => ?_⟩
    have e : ∀ o, W.cell? ⟨g, o, none⟩ = w.cell? ⟨g, o, none⟩ := fun o => hc.cell (p := ⟨g, o, none⟩) hlt (by simp)
    obtain ⟨c0, c1, c2, c3, c4, c5⟩ := hdCells_at H k d hk
    exact ⟨Nat.lt_of_lt_of_le hlt hc.size, fun j => (hc.frozen (p := ⟨g, j, none⟩) hlt (by simp)).trans (hfz j), (e _).trans (hcell _ _ c0), (e _).trans (hcell _ _ c1), (e _).trans (hcell _ _ c2), (e _).trans (hcell _ _ c3), (e _).trans (hcell _ _ c4), (e _).trans (hcell _ _ c5)⟩
end
end Go.Proofs
end
section
namespace Go.Proofs
open Go.RowKit
set_option linter.unusedVariables false
set_option linter.unusedSimpArgs false

/-! ### Rights, bit by bit -/
/-- Are all of the first ones among the others? -/
def amongP (a f : Nat) : Bool := (a &&& (255 - f)) == 0
theorem amongP_iff {a f : Nat} (ha : a < 256) (hf : f < 256) : amongP a f = true ↔ ∀ i, i < 8 → a.testBit i = true → f.testBit i = true := by
  unfold amongP
  rw [beq_iff_eq]
  have e : 255 - f = 2 ^ 8 - (f + 1) := by omega
  constructor
  · intro h i hi h1
    have := congrArg (fun x => Nat.testBit x i) h
    simp only [Nat.testBit_and, Nat.zero_testBit, h1, Bool.true_and, e, Nat.testBit_two_pow_sub_succ (by omega : f < 2 ^ 8), decide_eq_true hi, Bool.not_eq_false'] at this
    exact this
  · intro h
    apply Nat.eq_of_testBit_eq
    intro i
    rw [Nat.testBit_and, Nat.zero_testBit, e, Nat.testBit_two_pow_sub_succ (by omega : f < 2 ^ 8)]
    by_cases hi : i < 8
    · cases h1 : a.testBit i
      · rfl
      · rw [h i hi h1]; simp
    · simp [hi]
theorem amongP_trans {a b c : Nat} (ha : a < 256) (hb : b < 256) (hc : c < 256) (h1 : amongP a b = true) (h2 : amongP b c = true) : amongP a c = true :=
  (amongP_iff ha hc).2 fun i hi h => (amongP_iff hb hc).1 h2 i hi ((amongP_iff ha hb).1 h1 i hi h)
/-- What is narrowed. -/
def narrowP (f a : Nat) : Nat := if amongP a f then a else 0
theorem narrow_bits {a f : Nat} (ha : a < 256) (hf : f < 256) : (bits BinOp.andNot IntKind.u8 ((a : Nat) : Int) ((f : Nat) : Int) != 0) = !amongP a f := by
  rw [u8_andNot_nat a f ha hf, Bool.eq_iff_iff]
  simp [amongP]

/-- Narrow. -/
theorem narrow_any (f a : Nat) (hf : f < 256) (ha : a < 256) (w : World) :
    Calls Try.prog 95 #[.int .u8 f, .int .u8 a] w fun e w' => e = .returned (.tuple #[.int .u8 (narrowP f a), .bool (amongP a f)]) ∧ w' = w := by
  have hb := narrow_bits ha hf
  unfold narrowP
  cases hA : amongP a f
  · rw [hA] at hb
    go_enter Try.func95, Try.ntmps95
    go_wp2
    go_ret2
    exact ⟨rfl, rfl⟩
  · rw [hA] at hb
    go_enter Try.func95, Try.ntmps95
    go_wp2
    go_ret2
    exact ⟨rfl, rfl⟩

/-! ### A space, plainly -/
structure Sp where
  gs : Nat
  slots : Nat
  t : Fo
  f : Pt → Option Nat
  H : List Hd
def Sp.hd (s : Sp) (n : Nat) : Hd := (s.H[n]?).getD hd0
/-- Is there such a slot? -/
def Sp.slot (s : Sp) (p : Pt) : Bool := decide (0 ≤ p.g ∧ p.g < s.gs ∧ 0 ≤ p.s ∧ p.s < s.slots)
structure Sp.WF (s : Sp) : Prop where
  gs : 1 ≤ s.gs ∧ s.gs ≤ 64
  slots : 1 ≤ s.slots ∧ s.slots ≤ 32
  size : 1 ≤ s.t.size ∧ s.t.size ≤ 512
  len : s.H.length = s.t.size
  at_ : ∀ n, s.t.there n = true → s.slot (s.hd n).p = true ∧ s.f (s.hd n).p = some n ∧ (s.hd n).cap.ok
  back : ∀ p n, s.f p = some n → s.t.there n = true ∧ (s.hd n).p = p
  amg : ∀ n q, s.t.there n = true → s.t.par n = some q → amongP (s.hd n).cap.rts (s.hd q).cap.rts = true
theorem Sp.WF.get {s : Sp} (h : s.WF) {n : Nat} (hn : n < s.t.size) : s.H[n]? = some (s.hd n) := by
  have : n < s.H.length := by rw [h.len]; exact hn
  unfold Sp.hd
  rw [List.getElem?_eq_getElem this]
  rfl
theorem Sp.WF.inj {s : Sp} (h : s.WF) {n m : Nat} (hn : s.t.there n = true) (hm : s.t.there m = true) (e : (s.hd n).p = (s.hd m).p) : n = m := by
  have h1 := (h.at_ n hn).2.1
  rw [e, (h.at_ m hm).2.1] at h1
  exact (Option.some.inj h1).symm
theorem Sp.WF.slot_of {s : Sp} (h : s.WF) {p : Pt} {n : Nat} (hf : s.f p = some n) : s.slot p = true := by
  obtain ⟨h1, h2⟩ := h.back p n hf
  have := (h.at_ n h1).1
  rwa [h2] at this
theorem Sp.slot_ok {s : Sp} {p : Pt} (hg : s.gs ≤ 64) (hs : s.slots ≤ 32) (h : s.slot p = true) : p.ok := by
  have := of_decide_eq_true h
  exact ⟨⟨by omega, by omega⟩, ⟨by omega, by omega⟩⟩
/-- The space s lies in w at block a; S are its blocks. -/
def SpAt (w : World) (a : Nat) (S : List Nat) (s : Sp) : Prop := ∃ c, Raw w a S s.gs s.slots c s.t.len s.f s.H ∧ Sim c s.t ∧ s.WF
section
variable {w w' : World} {a : Nat} {S : List Nat} {s : Sp}
theorem SpAt.lt (h : SpAt w a S s) : ∀ k ∈ S, k < w.heap.size := by obtain ⟨c, h1, _⟩ := h; exact h1.lt
theorem SpAt.chg {S' : List Nat} (h : SpAt w a S s) (hc : Chg S' w w') (hn : ∀ k ∈ S, k ∉ S') : SpAt w' a S s := by
  obtain ⟨c, h1, h2⟩ := h
  exact ⟨c, h1.chg hc hn, h2⟩
theorem SpAt.quiet (h : SpAt w a S s) (hc : Chg [] w w') : SpAt w' a S s := h.chg hc (fun _ _ hk => by cases hk)
theorem SpAt.wf (h : SpAt w a S s) : s.WF := by obtain ⟨c, _, _, h1⟩ := h; exact h1
theorem SpAt.twf (h : SpAt w a S s) : s.t.WF := by obtain ⟨c, _, h1, _⟩ := h; exact h1.wf
end
/-- No space, or a zero one. -/
def NoS (w : World) (v : Value) : Prop := v = .pointer none ∨ ∃ a, v = ptr a ∧ Blk w a 73 #[.int .i64 0, .int .i64 0, .pointer none, .map none, .slice none 0 0]
theorem NoS.quiet {w w' : World} {v : Value} (h : NoS w v) (hc : Chg [] w w') : NoS w' v := by
  rcases h with rfl | ⟨a, rfl, hB⟩
  · exact .inl rfl
  · exact .inr ⟨a, rfl, hB.quiet hc⟩
theorem NoS.nil (w : World) : NoS w (.pointer none) := .inl rfl
section
variable {w : World} {a : Nat} {S : List Nat} {s : Sp}
/-! ### What is asked of a space without a turn -/
theorem derived_any (h : SpAt w a S s) : Calls Try.prog 73 #[ptr a] w fun e w' => w = w' ∧ ∃ ht St c, e = .returned (ptr ht) ∧ TreeAt w' ht St c ∧ Sim c s.t := by
  obtain ⟨c, hR, hS, hW⟩ := h
  obtain ⟨ht, St, bm, A, cH, _, hh, _, _⟩ := hR.head
  obtain ⟨c0, c1, c2, c3, c4, la, _, hT, _⟩ := hh w (Chg.refl _ _)
  have HE := Lib.hid (⟨St, c, hT, hS⟩ : ∃ St c, TreeAt w ht St c ∧ Sim c s.t)
  clear hh hT hS hW hR c0 c1 c3 c4
  go_enter Try.func73, Try.ntmps73
  go_wp2
  go_ret
  obtain ⟨St, c, h1, h2⟩ := HE.out
  exact ⟨rfl, ht, St, c, rfl, h1, h2⟩
theorem derived_no {v : Value} (h : NoS w v) : Calls Try.prog 73 #[v] w fun e w' => w = w' ∧ e = .returned (.pointer none) := by
  rcases h with rfl | ⟨a, rfl, hB⟩
  · go_enter Try.func73, Try.ntmps73
    go_wp2
    go_ret
    exact ⟨rfl, rfl⟩
  · have c2 := hB.cell 2
    simp only [List.getElem?_toArray, List.getElem?_cons_zero, List.getElem?_cons_succ] at c2
    have la := hB.lt
    clear hB
    go_enter Try.func73, Try.ntmps73
    go_wp2
    go_ret
    exact ⟨rfl, rfl⟩
theorem none_is (h : SpAt w a S s) : Calls Try.prog 51 #[ptr a] w fun e w' => w = w' ∧ e = .returned (.bool false) := by
  have HD := derived_any h
  clear h
  go_enter Try.func51, Try.ntmps51
  go_wp2_with (go_at_call 73; refine HD.mono ?_; rintro e w' ⟨rfl, ht, St, c, rfl, _, _⟩)
  go_ret
  exact ⟨rfl, rfl⟩
theorem none_no {v : Value} (h : NoS w v) : Calls Try.prog 51 #[v] w fun e w' => w = w' ∧ e = .returned (.bool true) := by
  have HD := derived_no h
  clear h
  go_enter Try.func51, Try.ntmps51
  go_wp2_with (go_at_call 73; refine HD.mono ?_; rintro e w' ⟨rfl, rfl⟩)
  go_ret
  exact ⟨rfl, rfl⟩
theorem node_any (h : SpAt w a S s) {p : Pt} (hp : p.ok) : Calls Try.prog 52 #[ptr a, p.val] w fun e w' => e = .returned (.tuple #[.int .i64 (((s.f p).getD 0 : Nat) : Int), .bool (s.f p).isSome]) ∧ Chg [] w w' := by
  have HN := none_is h
  obtain ⟨c, hR, hS, hW⟩ := h
  obtain ⟨ht, St, bm, A, cH, _, hh, _, _⟩ := hR.head
  obtain ⟨c0, c1, c2, c3, c4, la, _, hT, hM⟩ := hh (w.alloc (.cells #[.int .i64 p.g, .int .i64 p.s] 94)) ((Chg.refl _ _).alloc _)
  have HN2 := none_is ⟨c, hR.quiet ((Chg.refl _ _).alloc (.cells #[.int .i64 p.g, .int .i64 p.s] 94)), hS, hW⟩
  have hlk := fun q => (hM.quiet ((Chg.refl _ _).drewN q)).look_ok hp
  obtain ⟨n, hn⟩ : ∃ n, n = (s.f p).getD 0 := ⟨_, rfl⟩
  obtain ⟨b, hb⟩ : ∃ b, b = (s.f p).isSome := ⟨_, rfl⟩
  rw [← hn, ← hb] at hlk ⊢
  clear hh hT hS hW hR c0 c1 c2 c4 HN hn hb hM
  go_enter Try.func52, Try.ntmps52
  go_wp2_with (go_at_call 51; refine HN2.mono ?_; rintro e w' ⟨rfl, rfl⟩)
  go_quiet (fail)
  go_wp2
  go_ret2
  exact ⟨rfl, ((Chg.refl _ _).alloc _).drewN _⟩
theorem node_no {v : Value} (h : NoS w v) (p : Pt) : Calls Try.prog 52 #[v, p.val] w fun e w' => e = .returned (.tuple #[.int .i64 0, .bool false]) ∧ Chg [] w w' := by
  have HN2 := none_no (h.quiet ((Chg.refl _ _).alloc (.cells #[.int .i64 p.g, .int .i64 p.s] 94)))
  clear h
  go_enter Try.func52, Try.ntmps52
  go_wp2_with (go_at_call 51; refine HN2.mono ?_; rintro e w' ⟨rfl, rfl⟩)
  go_ret2
  exact ⟨rfl, (Chg.refl _ _).alloc _⟩
theorem slen_any (h : SpAt w a S s) : Calls Try.prog 35 #[ptr a] w fun e w' => e = .returned (.int .i64 (s.t.len : Nat)) ∧ Chg [] w w' := by
  have HD := derived_any h
  have HL := Lib.hid (fun (ht : Nat) (St : List Nat) (c : Tr) (hT : TreeAt w ht St c) (hS : Sim c s.t) => by
    have h1 := len_any hT hS.count.2 hS.lenN
    rw [hS.count.1] at h1
    exact h1)
  obtain ⟨n, hn⟩ : ∃ n, n = s.t.len := ⟨_, rfl⟩
  rw [← hn] at HL ⊢
  clear h hn
  go_enter Try.func35, Try.ntmps35
  go_wp2_with (first
    | (go_at_call 73; refine HD.mono ?_; rintro e w' ⟨rfl, ht, St, c, rfl, hT, hS⟩; have HX := Lib.hid (HL.out ht St c hT hS); clear hT hS)
    | (go_at_call 74; refine HX.out.mono ?_; rintro e w' ⟨rfl, hc⟩; have HC := Lib.hid hc; clear hc))
  go_ret
  exact ⟨rfl, HC.out⟩
theorem slen_no {v : Value} (h : NoS w v) : Calls Try.prog 35 #[v] w fun e w' => e = .returned (.int .i64 0) ∧ Chg [] w w' := by
  have HD := derived_no h
  clear h
  go_enter Try.func35, Try.ntmps35
  go_wp2_with (first
    | (go_at_call 73; refine HD.mono ?_; rintro e w' ⟨rfl, rfl⟩)
    | (go_at_call 74; refine (len_nil w).mono ?_; rintro e w' ⟨rfl, rfl⟩))
  go_ret
  exact ⟨rfl, Chg.refl _ _⟩
theorem room_any (h : SpAt w a S s) : Calls Try.prog 36 #[ptr a] w fun e w' => e = .returned (.int .i64 ((s.t.size - s.t.len : Nat) : Int)) ∧ Chg [] w w' := by
  have HD := derived_any h
  have HL := Lib.hid (fun (ht : Nat) (St : List Nat) (c : Tr) (hT : TreeAt w ht St c) (hS : Sim c s.t) => by
    have h1 := size_any hT
    rw [hS.size] at h1
    exact h1)
  have hle : s.t.len ≤ s.t.size := by have := h.twf.len; omega
  have hsz := h.wf.size.2
  have HS := Lib.hid (fun W (hc : Chg [] w W) => slen_any (h.quiet hc))
  obtain ⟨n, hn⟩ : ∃ n, n = s.t.len := ⟨_, rfl⟩
  obtain ⟨m, hm⟩ : ∃ m, m = s.t.size := ⟨_, rfl⟩
  rw [← hn] at HS hle ⊢
  rw [← hm] at HL hle hsz ⊢
  have e1 : IntKind.i64.wrap ((m : Int) - (n : Int)) = ((m - n : Nat) : Int) := by rw [show (m : Int) - (n : Int) = ((m - n : Nat) : Int) by omega]; exact IntWalk.i64_in _ (by omega)
  clear h hn hm hsz hle
  go_enter Try.func36, Try.ntmps36
  go_wp2_with (first
    | (go_at_call 73; refine HD.mono ?_; rintro e w' ⟨rfl, ht, St, c, rfl, hT, hS⟩; have HX := Lib.hid (HL.out ht St c hT hS); clear hT hS)
    | (go_at_call 75; refine HX.out.mono ?_; rintro e w' ⟨rfl, rfl⟩)
    | (go_at_call 35; refine (HS.out _ (Chg.refl _ _)).mono ?_; rintro e w' ⟨rfl, hc⟩; have HC := Lib.hid hc; clear hc))
  go_ret
  exact ⟨by first | rfl | (rw [e1]; rfl) | (simp only [Ending.returned.injEq, Value.int.injEq, true_and]; exact e1), HC.out⟩
theorem room_no {v : Value} (h : NoS w v) : Calls Try.prog 36 #[v] w fun e w' => e = .returned (.int .i64 0) ∧ Chg [] w w' := by
  have HD := derived_no h
  have HS := slen_no h
  clear h
  go_enter Try.func36, Try.ntmps36
  go_wp2_with (first
    | (go_at_call 73; refine HD.mono ?_; rintro e w' ⟨rfl, rfl⟩)
    | (go_at_call 75; refine (size_nil w).mono ?_; rintro e w' ⟨rfl, rfl⟩)
    | (go_at_call 35; refine HS.mono ?_; rintro e w' ⟨rfl, hc⟩; have HC := Lib.hid hc; clear hc))
  go_ret
  exact ⟨rfl, HC.out⟩
end
end Go.Proofs
end
