/- Signs in plain lists, and names' texts. -/
import Derived.Test.YtojaohdmfahpmaaDoorSignMath
import Derived.Test.YtojaohdmfahpmaaDoorNamesIS
import Derived.Test.YtojaohdmfahpmaaDoorLoose
import Derived.Test.YtojaohdmfahpmaaDoorBoxes
