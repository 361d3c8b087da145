import Derived.Test.YtihodeaeacgdpaaReZe
import Derived.Test.YtihodeaeacgdpaaReZg
import Derived.Test.YtihodeaeacgdpaaReZh
import Derived.Test.YtihodeaeacgdpaaReZj
import Derived.Test.YtihodeaeacgdpaaReZk
namespace Go.Proofs
open Go.RowKit Go.Sort
set_option linter.unusedVariables false
section
variable {w0 w : World} {g cap n : Nat} {d : Array Int}
theorem ins_n (h : Ud w0 w g cap d) (hz : d.size = n) (hn : n ≤ 100000) (a b : Nat) (hab : a ≤ b) (hb : b ≤ n) :
    Calls Try.prog 48 #[.slice (some ⟨g, 0, none⟩) n cap, .int .i64 a, .int .i64 b] w fun e w' => e = .returned (.tuple #[]) ∧ ∃ d', Ud w0 w' g cap d' ∧ PermIn a b d d' ∧ SortedIn ltInt a b d' := by
  subst hz
  have hp := insertionSort_holds (lt := ltInt) swo_ltInt d a b hab hb
  exact (ins_u h a b hab hb hn).mono fun e w' ⟨h1, h2⟩ => ⟨h1, _, h2, hp.1, hp.2⟩
theorem heap_n (h : Ud w0 w g cap d) (hz : d.size = n) (hn : n ≤ 100000) (a b : Nat) (hab : a < b) (hb : b ≤ n) :
    Calls Try.prog 49 #[.slice (some ⟨g, 0, none⟩) n cap, .int .i64 a, .int .i64 b] w fun e w' => e = .returned (.tuple #[]) ∧ ∃ d', Ud w0 w' g cap d' ∧ PermIn a b d d' ∧ SortedIn ltInt a b d' := by
  subst hz
  have hp := heapSort_holds (lt := ltInt) swo_ltInt d a b (by omega) hb
  exact (heap_u h a b hab hb hn).mono fun e w' ⟨h1, h2⟩ => ⟨h1, _, h2, hp.1, hp.2⟩
theorem breaks_n (h : Ud w0 w g cap d) (hz : d.size = n) (hn : n ≤ 100000) (a b : Nat) (hab : a + 12 < b) (hb : b ≤ n) :
    Calls Try.prog 50 #[.slice (some ⟨g, 0, none⟩) n cap, .int .i64 a, .int .i64 b] w fun e w' => e = .returned (.tuple #[]) ∧ ∃ d', Ud w0 w' g cap d' ∧ PermIn a b d d' := by
  subst hz
  exact breaks_u h a b hab hb hn
theorem pivot_n (h : Ud w0 w g cap d) (hz : d.size = n) (hn : n ≤ 100000) (a b : Nat) (hab : a + 12 < b) (hb : b ≤ n) :
    Calls Try.prog 51 #[.slice (some ⟨g, 0, none⟩) n cap, .int .i64 a, .int .i64 b] w fun e w' => (∃ (p : Nat) (hint : Int), e = .returned (.tuple #[.int .i64 p, .int .i64 hint]) ∧ a ≤ p ∧ p < b) ∧ Ud w0 w' g cap d := by
  subst hz
  exact pivot_u h a b hab hb hn
theorem reverse_n (h : Ud w0 w g cap d) (hz : d.size = n) (hn : n ≤ 100000) (a b : Nat) (hab : a < b) (hb : b ≤ n) :
    Calls Try.prog 52 #[.slice (some ⟨g, 0, none⟩) n cap, .int .i64 a, .int .i64 b] w fun e w' => e = .returned (.tuple #[]) ∧ ∃ d', Ud w0 w' g cap d' ∧ PermIn a b d d' := by
  subst hz
  exact reverse_u h a b hab hb hn
theorem partial_n (h : Ud w0 w g cap d) (hz : d.size = n) (hn : n ≤ 100000) (a b : Nat) (hab : a + 12 < b) (hb : b ≤ n) (hB : Below ltInt a b d) :
    Calls Try.prog 53 #[.slice (some ⟨g, 0, none⟩) n cap, .int .i64 a, .int .i64 b] w fun e w' => ∃ (r : Bool) (d' : Array Int), e = .returned (.bool r) ∧ Ud w0 w' g cap d' ∧ PermIn a b d d' ∧ (r = true → SortedIn ltInt a b d') := by
  subst hz
  have hp := partialInsertionSort_holds (lt := ltInt) swo_ltInt d a b (by omega) hb hB
  exact (partial_u h a b (by omega) hb hn).mono fun e w' ⟨h1, h2⟩ => ⟨_, _, h1, h2, hp.1, hp.2⟩
theorem parteq_n (h : Ud w0 w g cap d) (hz : d.size = n) (hn : n ≤ 100000) (a b p : Nat) (hab : a + 12 < b) (hb : b ≤ n) (h1 : a ≤ p) (h2 : p < b) (hB : Below ltInt a b d) (ha : 0 < a) (hl : ltInt d[a - 1]! d[p]! = false) :
    Calls Try.prog 55 #[.slice (some ⟨g, 0, none⟩) n cap, .int .i64 a, .int .i64 b, .int .i64 p] w fun e w' => ∃ (mid : Nat) (d' : Array Int), e = .returned (.int .i64 mid) ∧ Ud w0 w' g cap d' ∧ a < mid ∧ mid ≤ b ∧ d'.size = n ∧ Below ltInt mid b d' ∧ ∀ R, PermIn mid b d' R → SortedIn ltInt mid b R → PermIn a b d R ∧ SortedIn ltInt a b R := by
  subst hz
  refine (parteq_u h a b p h1 h2 (by omega) hb hn).mono fun e w' ⟨h3, h4⟩ => ⟨_, _, h3, h4, ?_⟩
  exact round_eq swo_ltInt (partitionEqual_holds ltInt) ha h1 h2 hb hB hl rfl
theorem part_n (h : Ud w0 w g cap d) (hz : d.size = n) (hn : n ≤ 100000) (a b p : Nat) (hab : a + 12 < b) (hb : b ≤ n) (h1 : a ≤ p) (h2 : p < b) (hB : Below ltInt a b d) :
    Calls Try.prog 56 #[.slice (some ⟨g, 0, none⟩) n cap, .int .i64 a, .int .i64 b, .int .i64 p] w fun e w' => ∃ (mid : Nat) (ap : Bool) (d' : Array Int), e = .returned (.tuple #[.int .i64 mid, .bool ap]) ∧ Ud w0 w' g cap d' ∧
      a ≤ mid ∧ mid < b ∧ d'.size = n ∧ Below ltInt a mid d' ∧ Below ltInt (mid + 1) b d' ∧
      (∀ L, PermIn a mid d' L → SortedIn ltInt a mid L → Below ltInt (mid + 1) b L ∧ ∀ R, PermIn (mid + 1) b L R → SortedIn ltInt (mid + 1) b R → PermIn a b d R ∧ SortedIn ltInt a b R) ∧
      (∀ L, PermIn (mid + 1) b d' L → SortedIn ltInt (mid + 1) b L → Below ltInt a mid L ∧ ∀ R, PermIn a mid L R → SortedIn ltInt a mid R → PermIn a b d R ∧ SortedIn ltInt a b R) := by
  subst hz
  refine (part_u h a b p h1 h2 (by omega) hb hn).mono fun e w' ⟨h3, h4⟩ => ⟨_, _, _, h3, h4, ?_⟩
  exact round_part swo_ltInt (partition_holds ltInt) h1 h2 hb hB rfl
end
end Go.Proofs
