/-
  Which of a list reaches each node with the least cost. Plain. No condition.
-/
import Derived.Test.YtkmognandkamoaaPMany
import Derived.Test.YtkmognandkamoaaPBack
import Derived.Test.YtkmognandkamoaaNTo
namespace Go.Proofs.Ytkmognandkamoaa

def servesOf (M : Nat) (xs : List ArcD) (ys : List Int) (v : Int) : List Int := ys.map fun y => at_ (nearL M xs y) v
def serveOne (M : Nat) (xs : List ArcD) (ys : List Int) (v : Int) : Int := (least (servesOf M xs ys v) ys.length).1
def serveTo (M : Nat) (xs : List ArcD) (ys : List Int) (k : Nat) : List Int := (List.range k).map fun (v : Nat) => serveOne M xs ys (v : Int)
def serveI (m : Int) (xs : List ArcD) (ys : List Int) : List Int := if listB m xs ys then serveTo m.toNat xs ys m.toNat else []

theorem serveTo_length (M : Nat) (xs : List ArcD) (ys : List Int) (k : Nat) : (serveTo M xs ys k).length = k := by simp [serveTo]
theorem serveTo_next (M : Nat) (xs : List ArcD) (ys : List Int) (k : Nat) : serveTo M xs ys (k + 1) = serveTo M xs ys k ++ [serveOne M xs ys (k : Int)] := by simp [serveTo, List.range_succ]
theorem serveTo_at (M : Nat) (xs : List ArcD) (ys : List Int) (n k : Nat) (h : k < n) : (serveTo M xs ys n)[k]? = some (serveOne M xs ys (k : Int)) := by
  simp [serveTo, h]

theorem serveI_len (m : Int) (xs : List ArcD) (ys : List Int) : (serveI m xs ys).length ≤ 1048576 := by
  unfold serveI
  split
  · rename_i h
    obtain ⟨h1, _⟩ := (listB_iff _ _ _).1 h
    obtain ⟨M, rfl, _, h8⟩ := here_nat h1
    rw [serveTo_length, Int.toNat_natCast]
    omega
  · simp

theorem listB_flip {m : Int} {xs : List ArcD} {ys : List Int} (h : listB m xs ys = true) : listB m (xs.map flip) ys = true := by
  obtain ⟨h1, h2⟩ := (listB_iff _ _ _).1 h
  exact (listB_iff _ _ _).2 ⟨netB_flip' h1, h2⟩

/-- Nearest to a node in the net turned about is which reaches it with the least cost. -/
theorem many_back {M : Nat} {xs : List ArcD} {ys : List Int} {v : Nat} (h : listB (M : Int) xs ys = true) (hv : v < M) : manyW (M : Int) (xs.map flip) (v : Int) ys = serveOne M xs ys (v : Int) := by
  obtain ⟨h1, _, h3⟩ := (listB_iff _ _ _).1 h
  obtain ⟨M', e, _, h8⟩ := here_nat h1
  have hI : inB (v : Int) 0 ((M : Int) - 1) = true := (inB_iff _ _ _).2 (by omega)
  rw [manyW, listB_flip h, hI, Bool.and_self, if_pos rfl, serveOne]
  congr 2
  rw [costsL, servesOf, Int.toNat_natCast]
  refine List.map_congr_left fun y hy => ?_
  exact (near_back (by omega) (arcsIn_net h1) (h3 y hy) (by omega)).symm

end Go.Proofs.Ytkmognandkamoaa
