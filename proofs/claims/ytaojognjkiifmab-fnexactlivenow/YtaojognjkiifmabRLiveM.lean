/-
  A net with news: its marks. No condition.
-/
import Derived.Test.YtaojognjkiifmabRLive
import Derived.Test.YtaojognjkiifmabPLive
import Derived.Test.YtaojognjkiifmabMark
import Derived.Test.YtaojognjkiifmabMarkB
namespace Go.Proofs.Ytaojognjkiifmab
open Go.RowKit

theorem lnowL_lenM (m : Int) (xs : List ArcD) (ns : List NewsD) : (lnowL m xs ns).length ≤ 1048576 := Nat.le_trans (lnowL_len m xs ns) (by omega)

theorem markLive_any (m : Int) (g n h l k : Nat) (w : World) (hn : n ≤ 1048576) (hl : l ≤ 1048576) (ki : Int) (hki : ki = (k : Int)) (hk : k ≤ 100) (hr : RowN w g 34 (n * 5)) (hs : RowN w h 64 (l * 3)) (hgh : g < h) :
    Calls Try.prog 35 #[.agg #[.int .i64 m, .slice (some ⟨g, 0, none⟩) n n, .slice (some ⟨h, 0, none⟩) l l], .int .i64 ki] w fun e w' => e = .returned (.int .i64 ((k : Int) + 5 * n + 3 * l)) ∧ ∃ w5, w.grownBy w5 (some g) ∧ w5.grownBy w' (some h) := by
  subst hki
  have hg0 := hr.lt
  have hh0 := hs.lt
  have hb0 : Past w (w.alloc (.cells #[.int .i64 m, .slice (some ⟨g, 0, none⟩) n n, .slice (some ⟨h, 0, none⟩) l l] 52)) := (Past.refl _).alloc _
  have b2 : (w.alloc (.cells #[.int .i64 m, .slice (some ⟨g, 0, none⟩) n n, .slice (some ⟨h, 0, none⟩) l l] 52)).cell? ⟨w.heap.size, 2, none⟩ = some (.slice (some ⟨h, 0, none⟩) l l) := by go_simp
  have hr1 := hr.keep (hb0.block _ hg0)
  have hs1 := hs.keep (hb0.block _ hh0)
  go_enter Try.func35, Try.ntmps35
  go_wp2_with fail
  refine (markNet_any m (some ⟨g, 0, none⟩) n n k g 34 _ hn _ rfl (by omega) (.inr ⟨g, n * 5, rfl, Nat.le_refl _, hr1, by omega⟩ : OwnAt _ g (some ⟨g, 0, none⟩) 34 5 n)).mono ?_
  rintro e w5 ⟨rfl, hb, _⟩
  have hb' : (w.alloc (.cells #[.int .i64 m, .slice (some ⟨g, 0, none⟩) n n, .slice (some ⟨h, 0, none⟩) l l] 52)).grownBy w5 (some g) := hb
  have b2 := cell_far hb' b2 (by simp only [ne_eq]; omega)
  have hs5 := hs1.young hb' (by omega)
  have hg5 : w.grownBy w5 (some g) := grown_trans (grown_of_below hb0 _) hb'
  clear hb hb' hb0 hr1 hs1
  go_wp2_with fail
  refine (markNewsS_any (some ⟨h, 0, none⟩) l l (k + 5 * n) h 64 _ hl _ (by push_cast; rfl) (by omega) (.inr ⟨h, l * 3, rfl, Nat.le_refl _, hs5, by omega⟩ : OwnAt _ h (some ⟨h, 0, none⟩) 64 3 l)).mono ?_
  rintro e w6 ⟨rfl, hb6, _⟩
  have hb6' : w5.grownBy w6 (some h) := hb6
  go_wp2
  go_ret
  exact ⟨ret_int (by push_cast; rfl), w5, hg5, hb6'⟩

end Go.Proofs.Ytaojognjkiifmab
