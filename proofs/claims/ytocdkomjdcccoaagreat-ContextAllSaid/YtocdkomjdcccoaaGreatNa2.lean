import Derived.Test.YtocdkomjdcccoaaGreatNa1
import Derived.Sort.LoopGhostIn
section
namespace Go.Proofs
open Go.RowKit Go.Shelf
set_option linter.unusedVariables false
set_option linter.unusedSimpArgs false
set_option maxRecDepth 100000

/-! ### All budgets together, as All goes over them -/
def allB (l : List Nam) : Int := (l.map fun p => p.x.b).sum
theorem allB_snoc (l : List Nam) (p : Nam) : allB (l ++ [p]) = allB l + p.x.b := by simp [allB]
theorem allB_strip (l : List Nam) : allB (l.map Nam.strip) = allB l := by
  unfold allB; rw [List.map_map]; rfl
theorem allB_now (t : Tab Cx) : ∀ n, allB (nowL t n) = sumUp (valB t) n
  | 0 => rfl
  | n + 1 => by
    have ih := allB_now t n
    unfold sumUp
    rcases live_cases t (n : Nat) with ⟨s, hs⟩ | hno
    · rw [nowL_yes hs, allB_snoc, ih]
      obtain ⟨h1, h2⟩ := live_nat.1 hs
      unfold valB
      rw [h1]
      simp [h2]
    · rw [nowL_no hno, ih]
      have : valB t n = 0 := by
        unfold valB
        cases hk : t.spots[n]? with
        | none => rfl
        | some s =>
          have h2 : s.there = false := by
            cases hh : s.there with
            | false => rfl
            | true => have := live_nat.2 ⟨hk, hh⟩; rw [hno] at this; cases this
          simp [h2]
      rw [this]; omega
theorem allB_tot {t : Tab Cx} {N : Nat} (hN : t.size = (N : Nat)) : allB (nowL t N) = totP t := by
  rw [allB_now]; unfold totP; rw [hN]; rfl
theorem allB_bd : ∀ (l : List Nam), (∀ p ∈ l, 1 ≤ p.x.b ∧ p.x.b ≤ 4294967296) → 0 ≤ allB l ∧ allB l ≤ l.length * 4294967296
  | [], _ => by simp [allB]
  | p :: l, h => by
    have ih := allB_bd l (fun q hq => h q (List.mem_cons_of_mem _ hq))
    have hp := h p (by simp)
    have e : allB (p :: l) = p.x.b + allB l := by simp [allB]
    rw [e]; simp; omega
/-! ### Marks -/
def marks (Ds : List Nat) : List Deferred := Ds.map fun D => { target := .collected D, args := #[] }
/-- The loops' blocks for deferred calls: each its own, beyond B, and none holds a call. -/
def Marks (B : Nat) (W : World) (Ds : List Nat) : Prop := Ds.Nodup ∧ ∀ D ∈ Ds, B ≤ D ∧ W.heap[D]? = some (.deferred (some []))
theorem Marks.lt {B : Nat} {W : World} {Ds : List Nat} (h : Marks B W Ds) : ∀ D ∈ Ds, D < W.heap.size := fun D hD => (Array.getElem?_eq_some_iff.1 (h.2 D hD).2).1
theorem Marks.chg {B : Nat} {S : List Nat} {W W' : World} {Ds : List Nat} (h : Marks B W Ds) (hc : Chg S W W') (hS : Off W S) : Marks B W' Ds :=
  ⟨h.1, fun D hD => ⟨(h.2 D hD).1, (hc.block D (h.lt D hD) (fun hm => by
    obtain ⟨t, cs, hb, _⟩ := hS D hm (h.lt D hD)
    have := (h.2 D hD).2
    unfold Blk at hb
    rw [hb] at this; cases this)).trans (h.2 D hD).2⟩⟩
theorem Marks.quiet {B : Nat} {W W' : World} {Ds : List Nat} (h : Marks B W Ds) (hc : Chg [] W W') : Marks B W' Ds := h.chg hc (Off.nil W)
theorem Marks.cons {B D n : Nat} {W : World} {Ds : List Nat} (h : Marks B W Ds) (hn : ∀ E ∈ Ds, E < n) (hB : B ≤ n) (hD : n ≤ D) (hK : W.heap[D]? = some (.deferred (some []))) : Marks B W (D :: Ds) :=
  ⟨List.nodup_cons.2 ⟨fun hm => by have := hn D hm; omega, h.1⟩, fun E hE => by
    rcases List.mem_cons.1 hE with rfl | hE
    · exact ⟨by omega, hK⟩
    · exact h.2 E hE⟩
/-- A function leaves by its marks: each is shut in turn; nothing that lay below B is changed, and no cells. -/
theorem leaves_marks {fn : Func} {tmps : Array Value} {n : Nat} {R : Ending → World → Prop} {B b : Nat} {ty : TypeId} {cs : Array Value} {w0 : World} (hw0 : B ≤ w0.heap.size)
    (h : ∀ W, Below B w0 W → Blk W b ty cs → LeavesIn Fence.wide n Tryz.prog fn tmps R [] .returning W) :
    ∀ (Ds : List Nat) (W : World), Marks B W Ds → Below B w0 W → Blk W b ty cs → LeavesInM Fence.wide n Tryz.prog fn tmps R (marks Ds) .returning W := by
  intro Ds
  induction Ds with
  | nil => intro W _ hB hH; exact h W hB hH
  | cons D Ds ih =>
    intro W hM hB hH
    have hD := hM.2 D (by simp)
    have hne : b ≠ D := by
      rintro rfl
      unfold Blk at hH
      rw [hD.2] at hH
      cases hH
    refine ⟨by simp, .inl ⟨_, _, rfl, run_takeDeferred hD.2, ?_⟩⟩
    refine ih _ ⟨(List.nodup_cons.1 hM.1).2, fun E hE => ⟨(hM.2 E (by simp [hE])).1, ?_⟩⟩ (hB.grown (grownBy_putObj' W D _) (by have := hB.size; omega) (fun k e => by cases e; exact hD.1)) (hH.same (World.putObj_heap_other hne))
    exact (World.putObj_heap_other (fun e => (List.nodup_cons.1 hM.1).1 (by subst e; exact hE))).trans (hM.2 E (by simp [hE])).2
/-! ### Between two acts -/
def BtwT (w0 : World) (c h : Nat) (most : Int) (N : Nat) (T : Int) (w : World) : Prop :=
  ∃ S SR t r, Pair w c S h SR t r most N ∧ totP t = T ∧ (∀ k ∈ S, w0.heap.size ≤ k) ∧ (∀ k ∈ SR, w0.heap.size ≤ k) ∧ Chg [] w0 w
section
variable {w0 w w' : World} {c h : Nat} {most T : Int} {N : Nat}
theorem BtwT.chg0 (H : BtwT w0 c h most N T w) : Chg [] w0 w := by obtain ⟨S, SR, t, r, h1, h2, h3, h4, h5⟩ := H; exact h5
theorem BtwT.quiet (H : BtwT w0 c h most N T w) (hc : Chg [] w w') : BtwT w0 c h most N T w' := by
  obtain ⟨S, SR, t, r, h1, h2, h3, h4, h5⟩ := H
  exact ⟨S, SR, t, r, h1.quiet hc, h2, h3, h4, h5.then hc⟩
theorem BtwT.does {B : Nat} {Ds : List Nat} (H : BtwT w0 c h most N T w) (hM : Marks B w Ds) (hN : N + 1 ≤ 1000) (a : ActC) (hF : a.Fits) :
    Calls Tryz.prog 12 #[ptr c, ptr h, .agg a.cells.toArray] w fun e w' => e = .returned (.bool true) ∧ Marks B w' Ds ∧ ∃ T', BtwT w0 c h most (N + 1) T' w' ∧ (keepK a.kind = true → T' = T) := by
  obtain ⟨S, SR, t, r, h1, h2, h3, h4, h5⟩ := H
  refine (do_any h1 (by omega) a hF).mono ?_
  rintro e w' ⟨he, hp⟩
  have hm := hM.chg hp.chg (h1.ct.off.append h1.rf.off)
  obtain ⟨S', SR', t', r', k1, k2, k3, k4, k5⟩ := hp.new h3 h4 h5
  exact ⟨he, hm, totP t', ⟨S', SR', t', r', by have := k1; simpa using this, rfl, k2, k3, k4⟩, fun hk => by rw [k5 hk, h2]⟩
end
theorem ex_frameS {x0 x1 x2 x3 x4 x5 x6 x7 x8 x9 x10 x11 x12 x13 x14 x15 x16 x17 x18 x19 x20 x21 x22 x23 x24 x25 x26 x27 x28 x29 x30 x31 x32 x33 x34 x35 x36 x37 x38 x39 x40 x41 x42 x43 x44 x45 x46 x47 x48 x49 x50 x51 x52 x53 x54 x55 x56 x57 x58 x59 x60 x61 x62 x63 x64 x65 x66 x67 x68 x69 x70 x71 x72 x73 x74 x75 x76 x77 x78 x79 x80 x81 x82 x83 x84 x85 x86 x87 x88 x89 x90 x91 x92 x93 x94 x95 x96 x97 x98 x99 x100 x101 x102 x103 x104 x105 x106 x107 x108 x109 x110 x111 x112 x113 x114 x115 x116 x117 x118 x119 x120 x121 : Value} {ds : List Deferred} {p q : Prop} (hp : p) (hq : q) :
    ∃ u : Nat → Value, p ∧ ({ tmps := #[x0, x1, x2, x3, x4, x5, x6, x7, x8, x9, x10, x11, x12, x13, x14, x15, x16, x17, x18, x19, x20, x21, x22, x23, x24, x25, x26, x27, x28, x29, x30, x31, x32, x33, x34, x35, x36, x37, x38, x39, x40, x41, x42, x43, x44, x45, x46, x47, x48, x49, x50, x51, x52, x53, x54, x55, x56, x57, x58, x59, x60, x61, x62, x63, x64, x65, x66, x67, x68, x69, x70, x71, x72, x73, x74, x75, x76, x77, x78, x79, x80, x81, x82, x83, x84, x85, x86, x87, x88, x89, x90, x91, x92, x93, x94, x95, x96, x97, x98, x99, x100, x101, x102, x103, x104, x105, x106, x107, x108, x109, x110, x111, x112, x113, x114, x115, x116, x117, x118, x119, x120, x121], defers := ds } : Act) = { tmps := #[x0, x1, x2, u 3, x4, u 5, x6, x7, u 8, x9, x10, x11, u 12, u 13, u 14, u 15, u 16, u 17, u 18, u 19, u 20, u 21, u 22, u 23, u 24, u 25, u 26, u 27, u 28, u 29, u 30, u 31, u 32, u 33, u 34, u 35, u 36, u 37, u 38, u 39, u 40, u 41, u 42, u 43, u 44, u 45, u 46, u 47, u 48, u 49, u 50, u 51, u 52, u 53, u 54, u 55, u 56, u 57, u 58, u 59, u 60, u 61, u 62, u 63, u 64, u 65, u 66, u 67, u 68, u 69, u 70, u 71, u 72, u 73, u 74, u 75, u 76, u 77, u 78, u 79, u 80, u 81, u 82, u 83, u 84, u 85, u 86, u 87, u 88, u 89, u 90, u 91, u 92, u 93, u 94, u 95, u 96, u 97, u 98, u 99, u 100, u 101, u 102, u 103, u 104, u 105, u 106, u 107, u 108, u 109, u 110, u 111, u 112, u 113, u 114, u 115, u 116, u 117, u 118, u 119, u 120, u 121], defers := ds } ∧ q :=
  ⟨fun i => #[x0, x1, x2, x3, x4, x5, x6, x7, x8, x9, x10, x11, x12, x13, x14, x15, x16, x17, x18, x19, x20, x21, x22, x23, x24, x25, x26, x27, x28, x29, x30, x31, x32, x33, x34, x35, x36, x37, x38, x39, x40, x41, x42, x43, x44, x45, x46, x47, x48, x49, x50, x51, x52, x53, x54, x55, x56, x57, x58, x59, x60, x61, x62, x63, x64, x65, x66, x67, x68, x69, x70, x71, x72, x73, x74, x75, x76, x77, x78, x79, x80, x81, x82, x83, x84, x85, x86, x87, x88, x89, x90, x91, x92, x93, x94, x95, x96, x97, x98, x99, x100, x101, x102, x103, x104, x105, x106, x107, x108, x109, x110, x111, x112, x113, x114, x115, x116, x117, x118, x119, x120, x121].getD i undef, hp, rfl, hq⟩
end Go.Proofs
end
