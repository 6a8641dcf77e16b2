/-
  The document's At is sem.
-/
import Derived.Test.YtmdblokmplbpmaaDoorLyAt1
import Derived.Test.YtmdblokmplbpmaaDoorLyAtA
import Derived.Test.YtmdblokmplbpmaaDoorLyAtO
import Derived.Test.YtmdblokmplbpmaaDoorLyAtX
import Derived.Test.YtmdblokmplbpmaaDoorLyAtU
import Derived.Test.YtmdblokmplbpmaaDoorLyAtR
import Derived.Test.YtmdblokmplbpmaaDoorLyAtE
import Derived.Test.YtmdblokmplbpmaaDoorLyAtG
import Derived.Test.YtmdblokmplbpmaaDoorLyAtM
import Derived.Test.YtmdblokmplbpmaaDoorLsPushM
namespace Go.Proofs.YtmdblokmplbpmaaDoor
namespace Ls
open Go.RowKit
theorem rat_any (x : Fm) : RAtOK x := by
  induction x using Fm.ind with
  | h z k nm l ih =>
    intro h
    have h' := h
    obtain ⟨⟨rfl, h1, h2, h3⟩, h4⟩ := wf_parts h
    revert h'
    rcases kinds h1 h2 with rfl | rfl | rfl | hk | hk
    · obtain ⟨y, rfl⟩ := one_part (h3.trans (by decide))
      exact rat_not nm y (ih y (by simp))
    · obtain ⟨y, rfl⟩ := one_part (h3.trans (by decide))
      exact rat_ever nm y (ih y (by simp))
    · obtain ⟨y, rfl⟩ := one_part (h3.trans (by decide))
      exact rat_always nm y (ih y (by simp))
    · rcases hk with rfl | rfl
      · exact rat_atom nm l
      · exact rat_true nm l
    · rcases hk with rfl | rfl | rfl | rfl | rfl
      · obtain ⟨y, z, rfl⟩ := two_parts (h3.trans (by decide))
        exact rat_and nm y z (ih y (by simp)) (ih z (by simp))
      · obtain ⟨y, z, rfl⟩ := two_parts (h3.trans (by decide))
        exact rat_or nm y z (ih y (by simp)) (ih z (by simp))
      · obtain ⟨y, rfl⟩ := one_part (h3.trans (by decide))
        exact rat_next nm y (ih y (by simp))
      · obtain ⟨y, z, rfl⟩ := two_parts (h3.trans (by decide))
        exact rat_until nm y z (ih y (by simp)) (ih z (by simp))
      · obtain ⟨y, z, rfl⟩ := two_parts (h3.trans (by decide))
        exact rat_release nm y z (ih y (by simp)) (ih z (by simp))
end Ls
end Go.Proofs.YtmdblokmplbpmaaDoor
