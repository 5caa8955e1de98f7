package mirror_test

import (
	"testing"

	"cracknel/api"
	"cracknel/mirror"
)

// The examples of the chapter, from the first one on.
func TestExamples(t *testing.T) {
	disks, m := fresh(t, "a")
	disks[2].Arm(2)
	post(t, m, "b")
	expectUses(t, m, true, true, false)
	lost := copies(disks)
	lost[0].Lose()
	restart(lost[2])
	expectLog(t, opened(t, lost...), "a", "b")

	restart(disks[2])
	m = opened(t, disks...)
	fail(t, m, "c", 0)
	lost = copies(disks)
	lost[0].Lose()
	restart(lost...)
	expectLog(t, opened(t, lost...), "a", "b")

	restart(disks...)
	stop(disks[0])
	m = opened(t, disks...)
	expectLog(t, m, "a", "b")
	post(t, m, "d")
	restart(disks[0])
	for away := -1; away < 3; away++ {
		c := copies(disks)
		if away >= 0 {
			stop(c[away])
		}
		expectLog(t, opened(t, c...), "a", "b", "d")
	}
}

// The example of README.md.
func TestExampleOfReadme(t *testing.T) {
	disks := blank()
	expectErrno(t, "Format", mirror.Format(disks, 0), api.OK)
	m := opened(t, disks...)
	post(t, m, "first tray")
	disks[2].Arm(2)
	post(t, m, "second tray")
	expectUses(t, m, true, true, false)
	disks[0].Lose()
	disks[2].Restart(0)
	m = opened(t, disks...)
	expectLog(t, m, "first tray", "second tray")
	expectJoin(t, m, 0, mirror.NewDisk(), api.OK)
	expectUses(t, m, true, true, true)
}
