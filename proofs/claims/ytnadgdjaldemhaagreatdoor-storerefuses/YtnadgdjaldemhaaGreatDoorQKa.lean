/- The store's calls in letters: Put; the parts of the statements. -/
import Derived.Test.YtnadgdjaldemhaaGreatDoorQKx
import Derived.Test.YtnadgdjaldemhaaGreatDoorQL11
import Derived.Test.YtnadgdjaldemhaaGreatDoorGC
namespace Go.Proofs.YtnadgdjaldemhaaGreatDoor
open Go.RowKit
theorem put_at {W : World} {A B P : Option Addr} {n c m k np cp : Nat} {L L2 : List Bl} {M M2 : List En} {r t r2 t2 E : Int} {d : List UInt8} {ps : List Prt} (h : StA W A B n c m k ⟨L, M, r, t⟩) (hd : d.length ≤ maxLen) (hp : Rd W 3 P np cp (pcs ps)) (hpn : P = none → cp = 0) (hpg : ∀ p ∈ ps, p.good) (hpl : ps.length ≤ 8) (hX : sPut ⟨L, M, r, t⟩ d ps = (E, ⟨L2, M2, r2, t2⟩)) :
    Calls Tryz.prog 16 #[.agg #[.slice A n c, .slice B m k, .int .i64 r, .int .i64 t], .string (str d), .slice P np cp] W (S2l E L2 M2 r2 t2 W) := by
  have := lPut_any h hp hpn hpg (by omega) hd
  rw [hX] at this
  exact this
/-- the parts of the statements may be, and are there -/
theorem prts_in {L : List Bl} {M : List En} {r k : Int} (h : StS L M r k) (q : Rw) : psErr (prts L q) = 0 ∧ pThere L (prts L q) = 0 ∧ (prts L q).length ≤ 8 ∧ ∀ p ∈ prts L q, p.good := by
  obtain ⟨h1, h2, h3⟩ := prts_ok h.b.fine q
  exact ⟨h1, (pThere_zero h.b.srt).2 h3, by omega, fun p hp => fine_good ((psErr_zero h1).2 p hp)⟩
theorem keyB_ok (n : Int) : cErr (keyB n) = 0 := cErr_dig _
theorem keyLen {d : List UInt8} (h : cErr d = 0) : d.length ≤ maxLen := by
  have : d.length = 64 := by
    unfold cErr at h
    split at h
    · omega
    · rename_i q; exact Classical.byContradiction q
  rw [this]; unfold maxLen; omega
theorem keyB_len (n : Int) : (keyB n).length ≤ maxLen := keyLen (keyB_ok n)
end Go.Proofs.YtnadgdjaldemhaaGreatDoor
